package tests

import (
	"fmt"
	"slices"
	"strings"

	"loop.example/s01729/impl"
)

// world is the document's chapter 8 by its own words: what is known of messages is read
// from the disk whenever it is asked for. Behind a crash no step is taken any more.
type world struct {
	clock   int64
	disk    impl.Disk
	zones   map[string]impl.Zone
	servers map[string][]string
	boxes   [][3]string // number, address and text

	op           impl.Op
	steps, syncs int
	crashed      bool
	sent         []impl.Sent

	read  string // the Main of which known was made
	known impl.Queue
}

func newWorld() *world {
	return &world{zones: map[string]impl.Zone{}, servers: map[string][]string{}, known: impl.Queue{Next: 1}}
}

// playByHand is Play.
func playByHand(ops []impl.Op) []impl.Out {
	if len(ops) > 300 {
		return nil
	}
	w := newWorld()
	var outs []impl.Out
	for _, op := range ops {
		outs = append(outs, w.take(op))
	}
	return outs
}

func (w *world) take(op impl.Op) impl.Out {
	w.op, w.steps, w.syncs, w.crashed, w.sent = op, 0, 0, false, nil
	out := w.answer(op)
	if w.crashed {
		return impl.Out{Code: 4, Sent: w.sent}
	}
	return out
}

func (w *world) queue() impl.Queue {
	if w.read != w.disk.Main {
		w.read, w.known = w.disk.Main, replayByHand(readByHand(w.disk.Main))
	}
	return w.known
}

func (w *world) item(id int64) (impl.Item, bool) {
	for _, x := range w.queue().Items {
		if int64(x.Msg.Id) == id {
			return x, true
		}
	}
	return impl.Item{}, false
}

// step takes a step, or crashes, or does nothing behind a crash.
func (w *world) step(take func()) {
	if w.crashed {
		return
	}
	w.steps++
	if w.steps != w.op.CrashAt {
		take()
		return
	}
	w.crashed = true
	left := w.disk.Main + w.disk.Loose[:clamp(w.op.Keep, len(w.disk.Loose))]
	w.disk = impl.Disk{Main: rightFrames(readByHand(left)...)}
}

func (w *world) journal(records ...impl.Record) bool {
	for _, r := range records {
		w.step(func() { w.disk.Loose += rightFrame(packByHand(r)) })
	}
	written := false
	w.step(func() {
		w.syncs++
		written = w.syncs != w.op.FailAt
		if written {
			w.disk.Main += w.disk.Loose
		}
		w.disk.Loose = ""
	})
	return written
}

func (w *world) answer(op impl.Op) impl.Out {
	malformed := impl.Out{Code: 1}
	switch op.Kind {
	case 1:
		return w.inject(op)
	case 2:
		if op.Num < 0 || op.Num > 1000000 || w.clock+op.Num > 20000000 {
			return malformed
		}
		w.clock += op.Num
		for _, id := range dueByHand(w.queue(), w.clock) {
			if !w.crashed {
				w.handle(int64(id))
			}
		}
		return impl.Out{Num: w.clock, Sent: w.sent}
	case 3:
		if !domainByHand(op.Name) {
			return malformed
		}
		w.zones[op.Name] = op.Zone
		return impl.Out{}
	case 4:
		if !domainByHand(op.Name) || len(op.Replies) > 60 {
			return malformed
		}
		w.servers[op.Name] = op.Replies
		if op.Num < 0 {
			delete(w.servers, op.Name)
		}
		return impl.Out{}
	case 5:
		if x, ok := w.item(op.Num); ok {
			return impl.Out{Num: int64(x.Tries), Verdicts: x.Verdicts}
		}
		return impl.Out{Code: 5}
	case 6:
		var texts []string
		for _, b := range w.boxes {
			if b[1] == op.Name {
				texts = append(texts, b[2])
			}
		}
		return impl.Out{Num: int64(len(texts)), Texts: texts}
	case 7:
		was, records := w.disk, snapshotByHand(w.queue())
		for n := range 3 {
			w.step(func() { w.disk = compactByHand(was, rightFrames(records...), n+1) })
		}
		return impl.Out{Num: int64(len(records))}
	}
	return malformed
}

func (w *world) inject(op impl.Op) impl.Out {
	if !mailByHand("x", op.Name, op.Rcpts, op.Body) {
		return impl.Out{Code: 1}
	}
	q := w.queue()
	if len(q.Items) == 30 || q.Next > 999999 {
		return impl.Out{Code: 2}
	}
	m := impl.Message{Id: q.Next, Born: w.clock, From: op.Name, Rcpts: op.Rcpts, Body: op.Body}
	if !w.journal(impl.Record{Kind: 1, Msg: m}) {
		return impl.Out{Code: 3}
	}
	return impl.Out{Num: int64(m.Id)}
}

func (w *world) waits(id int64) bool {
	x, _ := w.item(id)
	return slices.ContainsFunc(x.Verdicts, pendingByHand)
}

// handle is chapter 8.4.
func (w *world) handle(id int64) {
	x, _ := w.item(id)
	switch {
	case !w.waits(id):
	case w.clock >= x.Msg.Born+432000:
		var all []impl.Record
		for i, v := range x.Verdicts {
			if pendingByHand(v) {
				all = append(all, verdict(int(id), i, impl.Verdict{Kind: 4, Code: v.Code, Text: v.Text}))
			}
		}
		if !w.journal(all...) {
			return
		}
	default:
		if !w.handleGroups(x) {
			return
		}
		if w.waits(id) {
			tries := min(x.Tries+1, 999999)
			w.journal(try(int(id), tries, w.clock+min(14400, int64(60)<<min(tries-1, 20))))
			return
		}
	}
	w.finish(id)
}

func (w *world) finish(id int64) {
	x, _ := w.item(id)
	b := impl.Bounce{Helo: "out.example", To: x.Msg.From, Headers: headersByHand(x.Msg.Body)}
	for i, v := range x.Verdicts {
		if status := map[int]string{3: "5.0.0", 4: "4.4.7"}[v.Kind]; status != "" {
			b.Failures = append(b.Failures, impl.Failure{Rcpt: x.Msg.Rcpts[i], Status: status, Code: v.Code, Text: cleanByHand(v.Text)})
		}
	}
	if len(b.Failures) > 0 && b.To != "" && !x.Bounced {
		w.step(func() {
			number := fmt.Sprint(id)
			if !slices.ContainsFunc(w.boxes, func(old [3]string) bool { return old[0] == number }) {
				w.boxes = append(w.boxes, [3]string{number, b.To, makeByHand(b)})
			}
		})
		if !w.journal(bounced(int(id))) {
			return
		}
	}
	w.journal(drop(int(id)))
}

func domainOfAddress(address string) string {
	return address[strings.Index(address, "@")+1:]
}

// handleGroups is the third point of chapter 8.4 up to the groups' end.
func (w *world) handleGroups(x impl.Item) bool {
	var domains []string
	groups := map[string][]int{}
	for i, v := range x.Verdicts {
		if d := domainOfAddress(x.Msg.Rcpts[i]); pendingByHand(v) {
			if groups[d] == nil {
				domains = append(domains, d)
			}
			groups[d] = append(groups[d], i)
		}
	}
	for _, d := range domains {
		if !w.handleGroup(x, d, groups[d]) {
			return false
		}
	}
	return true
}

// handleGroup is chapter 8.5.
func (w *world) handleGroup(x impl.Item, domain string, left []int) bool {
	zone, ok := w.zones[domain]
	if !ok {
		zone.Kind = 4
	}
	hosts, code := routeByHand(domain, zone, uint32(x.Msg.Id*1000+x.Tries))
	last := map[int]impl.Verdict{}
	for _, i := range left {
		last[i] = map[int]impl.Verdict{1: temp(0, "no answer"), 2: perm(550, "no such domain"), 3: perm(556, "null exchanger")}[code]
	}
	records := func(places []int) []impl.Record {
		var all []impl.Record
		for _, i := range places {
			all = append(all, verdict(x.Msg.Id, i, last[i]))
		}
		return all
	}
	for _, host := range hosts {
		if len(left) == 0 {
			break
		}
		var others, still []int
		for n, v := range w.session(host, x.Msg, left) {
			last[left[n]] = v
			if v.Kind == 2 && v.Code == 0 {
				still = append(still, left[n])
			} else {
				others = append(others, left[n])
			}
		}
		if left = still; len(others) > 0 && !w.journal(records(others)...) {
			return false
		}
	}
	return len(left) == 0 || w.journal(records(left)...)
}

// session is chapter 8.6.
func (w *world) session(host string, m impl.Message, places []int) []impl.Verdict {
	replies, ok := w.servers[host]
	if !ok {
		return slices.Repeat([]impl.Verdict{temp(0, "refused")}, len(places))
	}
	s := impl.Session{Phase: 1, Helo: "out.example", From: m.From, Body: m.Body}
	for _, i := range places {
		s.Rcpts = append(s.Rcpts, m.Rcpts[i])
	}
	s.Taken, s.Verdicts = make([]bool, len(places)), make([]impl.Verdict, len(places))
	sent := ""
	for n := 0; s.Phase != 9; n++ {
		e := impl.Event{Kind: 2}
		if n < len(replies) && replies[n] == "?" {
			e.Kind = 3
		} else if n < len(replies) && replies[n] != "" {
			e = impl.Event{Kind: 1, Data: replies[n]}
		}
		next, out := feedByHand(s, e)
		s, sent = next, sent+out
	}
	w.sent = append(w.sent, impl.Sent{Host: host, Bytes: sent})
	return s.Verdicts
}
