package tests

import (
	"fmt"
	"math"
	"math/rand"
	"slices"
	"strings"
	"testing"

	"loop.example/s01729/impl"
)

const (
	me        = "me@here.example"
	plainBody = "Subject: hi\r\n\r\nhello\r\n"
)

func zoneOp(domain string, z impl.Zone) impl.Op {
	return impl.Op{Kind: impl.OZone, Name: domain, Zone: z}
}

// homeOp makes a domain its own host.
func homeOp(domain string) impl.Op {
	return zoneOp(domain, impl.Zone{Kind: impl.ZNone, Addr: impl.ZOk})
}

// hostsOp gives a domain hosts in the order in which they are named.
func hostsOp(domain string, hosts ...string) impl.Op {
	var z impl.Zone
	z.Kind = impl.ZOk
	for i, host := range hosts {
		z.MXs = append(z.MXs, impl.MX{Pref: i, Host: host})
	}
	return zoneOp(domain, z)
}

func serverOp(host string, replies ...string) impl.Op {
	return impl.Op{Kind: impl.OServer, Name: host, Replies: replies}
}

// lines is replies with a line's end, but for those that are no bytes.
func lines(replies ...string) []string {
	var all []string
	for _, s := range replies {
		if len(s) > 1 {
			s += "\r\n"
		}
		all = append(all, s)
	}
	return all
}

// speakOp is a server that greets, and answers the commands up to MAIL, with 250; the
// replies that are named come behind.
func speakOp(host string, replies ...string) impl.Op {
	return serverOp(host, append(lines("220 hi", "250 hi", "250 ok"), lines(replies...)...)...)
}

// takeOp is a server that takes a message for one recipient.
func takeOp(host string) impl.Op {
	return speakOp(host, "250 ok", "354 go", "250 done", "221 bye")
}

// denyOp is a server that answers each of n recipients with this code.
func denyOp(host string, n, code int) impl.Op {
	return speakOp(host, append(slices.Repeat([]string{fmt.Sprint(code, " no")}, n), "221 bye")...)
}

func awayOp(host string) impl.Op {
	return impl.Op{Kind: impl.OServer, Name: host, Num: -1}
}

func injectOp(from string, rcpts ...string) impl.Op {
	return impl.Op{Kind: impl.OInject, Name: from, Rcpts: rcpts, Body: plainBody}
}

func tickOp(n int64) impl.Op { return impl.Op{Kind: impl.OTick, Num: n} }

func lookOp(n int64) impl.Op { return impl.Op{Kind: impl.OLook, Num: n} }

func boxOp(name string) impl.Op { return impl.Op{Kind: impl.OBox, Name: name} }

func compactOp() impl.Op { return impl.Op{Kind: impl.OCompact} }

func crashing(op impl.Op, at, keep int) impl.Op {
	op.CrashAt, op.Keep = at, keep
	return op
}

func failing(op impl.Op, at int) impl.Op {
	op.FailAt = at
	return op
}

// script puts operations and lists of operations one behind another.
func script(parts ...any) []impl.Op {
	var ops []impl.Op
	for _, p := range parts {
		switch x := p.(type) {
		case impl.Op:
			ops = append(ops, x)
		case []impl.Op:
			ops = append(ops, x...)
		}
	}
	return ops
}

// roomyOps is a copy of a script with room behind each of its lists.
func roomyOps(ops []impl.Op) []impl.Op {
	ops = roomy(ops)
	for i := range ops {
		ops[i].Rcpts, ops[i].Replies, ops[i].Zone.MXs = roomy(ops[i].Rcpts), roomy(ops[i].Replies), roomy(ops[i].Zone.MXs)
	}
	return ops
}

// wholeOps is a script with the room behind each of its lists.
func wholeOps(ops []impl.Op) []impl.Op {
	ops = slices.Clone(whole(ops))
	for i := range ops {
		ops[i].Rcpts, ops[i].Replies, ops[i].Zone.MXs = whole(ops[i].Rcpts), whole(ops[i].Replies), whole(ops[i].Zone.MXs)
	}
	return ops
}

func copyOuts(outs []impl.Out) []impl.Out {
	outs = slices.Clone(outs)
	for i, o := range outs {
		outs[i].Verdicts, outs[i].Texts, outs[i].Sent = slices.Clone(o.Verdicts), slices.Clone(o.Texts), slices.Clone(o.Sent)
	}
	return outs
}

// scribbleOuts writes another text to each element of each list of the answers, as far
// as its memory goes, and tells whether each has kept its own.
func scribbleOuts(outs []impl.Out) bool {
	var places []*string
	for _, o := range outs {
		for i := range whole(o.Verdicts) {
			places = append(places, &whole(o.Verdicts)[i].Text)
		}
		for i := range whole(o.Texts) {
			places = append(places, &whole(o.Texts)[i])
		}
		for i := range whole(o.Sent) {
			places = append(places, &whole(o.Sent)[i].Host)
		}
	}
	for i, p := range places {
		*p = fmt.Sprint("scribble ", i)
	}
	for i, p := range places {
		if *p != fmt.Sprint("scribble ", i) {
			return false
		}
	}
	return true
}

// toldOps is a script from which the test's reader can tell what happened.
func toldOps(ops []impl.Op) string {
	var b strings.Builder
	for i, op := range ops {
		fmt.Fprintf(&b, "\n%d: %.400q", i, fmt.Sprintf("%+v", op))
	}
	return b.String()
}

// mustPlay plays a script, holds the answers against those of the document's words,
// and sees to it that the script is as it was and that nothing is shared.
func mustPlay(t *testing.T, what string, ops []impl.Op) []impl.Out {
	t.Helper()
	given, kept := roomyOps(ops), roomyOps(ops)
	got, want := impl.Play(given), playByHand(ops)
	if len(got) != len(want) {
		t.Fatalf("%s: %d answers, not %d", what, len(got), len(want))
	}
	for i := range want {
		if !same(got[i], want[i]) {
			t.Fatalf("%s: answer %d is\n%.1500q, not\n%.1500q, in%s", what, i, fmt.Sprintf("%+v", got[i]), fmt.Sprintf("%+v", want[i]), toldOps(ops[:i+1]))
		}
	}
	answer := copyOuts(got)
	if !scribbleOuts(got) {
		t.Fatalf("%s: two lists of the answers share memory, in%s", what, toldOps(ops))
	}
	if !same(wholeOps(given), wholeOps(kept)) {
		t.Fatalf("%s: the script was changed, or shares memory with the answers:%s", what, toldOps(ops))
	}
	return answer
}

// mustAnswer plays a script and holds its last answers against those that are wanted.
func mustAnswer(t *testing.T, what string, ops []impl.Op, want ...impl.Out) {
	t.Helper()
	got := mustPlay(t, what, ops)
	got = got[len(got)-len(want):]
	for i := range want {
		if !same(got[i], want[i]) {
			t.Fatalf("%s: of the last %d answers the one at %d is\n%.1500q, not\n%.1500q, in%s",
				what, len(want), i, fmt.Sprintf("%+v", got[i]), fmt.Sprintf("%+v", want[i]), toldOps(ops))
		}
	}
}

// plainly is the answer that all went well, with no more than a number.
func plainly(num int64) impl.Out { return impl.Out{Num: num} }

// coded is an answer that holds its code alone.
func coded(code int) impl.Out { return impl.Out{Code: code} }

// seen is the answer of a look at a message.
func seen(tries int64, verdicts ...impl.Verdict) impl.Out {
	return impl.Out{Num: tries, Verdicts: verdicts}
}

// ticked is the answer of a tick in which these dialogues were held, each a host and
// what was sent to it.
func ticked(clock int64, dialogues ...string) impl.Out {
	out := impl.Out{Num: clock}
	for i := 0; i < len(dialogues); i += 2 {
		out.Sent = append(out.Sent, impl.Sent{Host: dialogues[i], Bytes: dialogues[i+1]})
	}
	return out
}

// said is commands that were sent, one behind another; a dot stands for the body.
func said(commands ...string) string {
	var b strings.Builder
	for _, c := range commands {
		if c == "." {
			c = stuffByHand(plainBody)
		} else {
			c += "\r\n"
		}
		b.WriteString(c)
	}
	return b.String()
}

// asked is what is sent to a server that answers up to the last of the recipients.
func asked(rcpts ...string) []string {
	commands := []string{"EHLO out.example", "MAIL FROM:<" + me + ">"}
	for _, rcpt := range rcpts {
		commands = append(commands, "RCPT TO:<"+rcpt+">")
	}
	return commands
}

// delivered is what is sent to a server that takes one of the recipients.
func delivered(rcpts ...string) string {
	return said(append(asked(rcpts...), "DATA", ".", "QUIT")...)
}

// denied is what is sent to a server that takes none of the recipients.
func denied(rcpts ...string) string {
	return said(append(asked(rcpts...), "QUIT")...)
}

// stepsOf is the number of steps that the operation takes behind a script.
func stepsOf(ahead []impl.Op, op impl.Op) int {
	for n := 0; ; n++ {
		outs := impl.Play(script(ahead, crashing(op, n+1, 0)))
		if outs[len(ahead)].Code != impl.ACrash {
			return n
		}
	}
}

// keeps is numbers of bytes around the ends of frames with these payloads.
func keeps(payloads ...string) []int {
	all := []int{math.MinInt, -1, 0, 1, 7, 8, 9, math.MaxInt}
	end := 0
	for _, p := range payloads {
		end += 8 + len(p)
		all = append(all, end-1, end, end+1)
	}
	return all
}

// randomDialogue is a server's replies: mostly those that lead on, for n recipients.
func randomDialogue(r *rand.Rand, n int) []string {
	replies := []string{"220 hi", "250-hi\r\n250 SIZE " + pick(r, "0", "20", "30", "100"), "250 ok"}
	for range n {
		replies = append(replies, pick(r, "250 yes", "250 yes", "251 there", "450 later", "550 never", "553 \xff\x01"))
	}
	replies = lines(append(replies, "354 go", pick(r, "250 done", "250 done", "452 full", "554 bad"), "221 bye")...)
	for range r.Intn(3) {
		at := r.Intn(len(replies))
		switch r.Intn(6) {
		case 0:
			replies = replies[:at]
		case 1:
			replies[at] = pick(r, "", "?")
		case 2:
			replies[at] = pick(r, "421 leaving\r\n", "500 what\r\n", "junk\r\n", "??", "250")
		case 3:
			replies = slices.Replace(replies, at, at+1, inParts(r, replies[at])...)
		default:
			replies = []string{strings.Join(replies[:at], ""), strings.Join(replies[at:], "")}
		}
		if len(replies) == 0 {
			break
		}
	}
	return replies[:min(60, len(replies))]
}

var (
	someDomains = []string{"a.x", "b.x", "c.x", "d.x"}
	someHosts   = []string{"a.x", "b.x", "h1.x", "h2.x", "h3.x"}
)

func randomZone(r *rand.Rand) impl.Zone {
	switch r.Intn(8) {
	case 0:
		return impl.Zone{Kind: impl.ZGone}
	case 1:
		return impl.Zone{Kind: impl.ZFail}
	case 2:
		return okZone(impl.MX{Host: "."})
	case 3:
		return impl.Zone{Kind: impl.ZNone, Addr: impl.ZOk}
	}
	z := impl.Zone{Kind: impl.ZOk}
	for range 1 + r.Intn(4) {
		z.MXs = append(z.MXs, impl.MX{Pref: r.Intn(2), Host: pick(r, someHosts...)})
	}
	return z
}

// randomOp leans to operations that move the queue on.
func randomOp(r *rand.Rand) impl.Op {
	switch r.Intn(16) {
	case 0, 1:
		return zoneOp(pick(r, someDomains...), randomZone(r))
	case 2, 3, 4:
		op := serverOp(pick(r, someHosts...), randomDialogue(r, 1+r.Intn(4))...)
		op.Num = int64(r.Intn(8) - 1)
		return op
	case 5, 6, 7:
		var rcpts []string
		for range 1 + r.Intn(5) {
			rcpts = append(rcpts, fmt.Sprintf("r%d@%s", r.Intn(9), pick(r, someDomains...)))
		}
		op := injectOp(pick(r, "", me, "you@here.example", me), rcpts...)
		op.Body = pick(r, "", plainBody, "--b0: x\r\n", "\r\n.\r\n")
		return op
	case 8, 9, 10, 11:
		return tickOp(pick(r, int64(0), 1, 59, 60, 120, 500, 3600, 14400, 100000, 432000, 431999))
	case 12:
		return compactOp()
	case 13:
		return boxOp(pick(r, me, "you@here.example", ""))
	}
	return lookOp(int64(r.Intn(12)))
}

// randomScript has a crash or a failure in many of its operations.
func randomScript(r *rand.Rand, n int) []impl.Op {
	var ops []impl.Op
	for _, d := range someDomains {
		ops = append(ops, zoneOp(d, randomZone(r)))
	}
	for _, h := range someHosts {
		ops = append(ops, serverOp(h, randomDialogue(r, 2)...))
	}
	for range n {
		op := randomOp(r)
		if r.Intn(3) == 0 {
			op.CrashAt, op.Keep = r.Intn(14), pick(r, -1, 0, r.Intn(60), r.Intn(300), 100000)
		}
		if r.Intn(3) == 0 {
			op.FailAt = r.Intn(6)
		}
		ops = append(ops, op)
	}
	return ops
}
