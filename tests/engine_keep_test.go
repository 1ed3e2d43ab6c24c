package tests

import (
	"fmt"
	"math"
	"math/rand"
	"slices"
	"strings"
	"testing"

	"loop.example/s01729/impl"
)

func mustInject(t *testing.T, what string, code int, change func(op *impl.Op)) {
	t.Helper()
	op := injectOp(me, "x@a.x", "y@b.x")
	change(&op)
	ops := script(op, lookOp(1), compactOp(), injectOp(me, "z@a.x"))
	if code != impl.AOk {
		mustAnswer(t, what, ops, coded(code), coded(impl.AUnknown), plainly(1), plainly(1))
		return
	}
	mustAnswer(t, what, ops, plainly(1), seen(0, make([]impl.Verdict, len(op.Rcpts))...), plainly(2), plainly(2))
}

func TestSendersOfInjects(t *testing.T) {
	long := strings.Repeat("l", 64) + "@" + domainOf(95)
	for _, from := range []string{"", me, "a@b", "a.b+c_d-e@0.x", long} {
		mustInject(t, fmt.Sprintf("sender %q", from), impl.AOk, func(op *impl.Op) { op.Name = from })
	}
	for _, from := range []string{" ", "a", "@", "a@", "@b", "a@b@c", "A@b", "a@-b", ".a@b", "a..b@c", "<a@b>", "a@b ", long + "x"} {
		mustInject(t, fmt.Sprintf("sender %q", from), impl.AMalformed, func(op *impl.Op) { op.Name = from })
	}
}

func TestRecipientsOfInjects(t *testing.T) {
	for _, n := range []int{0, 1, 2, 19, 20, 21, 22, 100} {
		code := impl.AOk
		if n == 0 || n > 20 {
			code = impl.AMalformed
		}
		mustInject(t, fmt.Sprint(n, " recipients"), code, func(op *impl.Op) { op.Rcpts = addresses(n) })
	}
	for _, wrong := range []string{"", "a", "@", "a@", "a@b@c", "A@b", "a@b."} {
		for at := range 20 {
			mustInject(t, fmt.Sprintf("recipient %d is %q", at, wrong), impl.AMalformed, func(op *impl.Op) {
				op.Rcpts = addresses(20)
				op.Rcpts[at] = wrong
			})
		}
	}
	mustInject(t, "one recipient twice", impl.AOk, func(op *impl.Op) { op.Rcpts = []string{"x@a.x", "x@a.x"} })
}

func TestBodiesOfInjects(t *testing.T) {
	for _, body := range []string{"", "\r\n", ".\r\n", plainBody, strings.Repeat("x", 998) + "\r\n", bodyOf(3000)} {
		mustInject(t, fmt.Sprintf("body %.20q", body), impl.AOk, func(op *impl.Op) { op.Body = body })
	}
	for _, body := range []string{"x", "\n", "x\n", "\r", "x\r\ny", "\x00\r\n", strings.Repeat("x", 999) + "\r\n", bodyOf(3000) + "\r\n"} {
		mustInject(t, fmt.Sprintf("body %.20q", body), impl.AMalformed, func(op *impl.Op) { op.Body = body })
	}
}

// The greatest message that there is fits in a record, and comes out whole.
func TestTheGreatestMessage(t *testing.T) {
	domain := domainOf(95)
	var rcpts []string
	for i := range 20 {
		rcpts = append(rcpts, fmt.Sprintf("%064d@%s", i, domain))
	}
	from := strings.Repeat("f", 64) + "@" + domain
	body := bodyOf(3000)
	op := impl.Op{Kind: impl.OInject, Name: from, Rcpts: rcpts, Body: body}
	replies := lines("220 hi", "250 hi", "250 ok")
	replies = append(append(replies, slices.Repeat([]string{"250 ok\r\n"}, 20)...), lines("354 go", "250 done")...)
	sent := said("EHLO out.example", "MAIL FROM:<"+from+">")
	for _, rcpt := range rcpts {
		sent += "RCPT TO:<" + rcpt + ">\r\n"
	}
	sent += "DATA\r\n" + stuffByHand(body) + "QUIT\r\n"
	mustAnswer(t, "the greatest message", script(homeOp(domain), serverOp(domain, replies...), op, compactOp(), tickOp(0), lookOp(1)),
		plainly(1), plainly(2), ticked(0, domain, sent), coded(impl.AUnknown))
}

func TestTheQueueIsFull(t *testing.T) {
	op := injectOp(me, "x@a.x")
	for _, n := range []int{0, 1, 28, 29} {
		ahead := slices.Repeat([]impl.Op{op}, n)
		mustAnswer(t, fmt.Sprint(n, " items"), script(ahead, op, lookOp(int64(n+1))), plainly(int64(n+1)), seen(0, impl.Verdict{}))
	}
	full := slices.Repeat([]impl.Op{op}, 30)
	mustAnswer(t, "30 items", script(full, op, op, lookOp(30), lookOp(31)), coded(impl.AFull), coded(impl.AFull), seen(0, impl.Verdict{}), coded(impl.AUnknown))
	// What is wrong is told first.
	mustAnswer(t, "30 items and a wrong one", script(full, injectOp("x", "x@a.x"), injectOp(me), injectOp(me, "x")),
		coded(impl.AMalformed), coded(impl.AMalformed), coded(impl.AMalformed))
	mustAnswer(t, "30 items, compacted", script(full, compactOp(), op), plainly(31), coded(impl.AFull))
	mustAnswer(t, "30 items, mounted again", script(full, crashing(compactOp(), 2, 0), op), coded(impl.ACrash), coded(impl.AFull))
	home := script(homeOp("b.x"), takeOp("b.x"), slices.Repeat([]impl.Op{op}, 29), injectOp(me, "y@b.x"))
	mustAnswer(t, "one was dropped", script(home, op, tickOp(0), op, op), coded(impl.AFull), ticked(0, "b.x", delivered("y@b.x")), plainly(31), coded(impl.AFull))
}

func TestAnInjectThatCrashes(t *testing.T) {
	op := injectOp(me, "x@a.x", "y@b.x")
	record := packByHand(impl.Record{Kind: 1, Msg: impl.Message{Id: 1, From: me, Rcpts: op.Rcpts, Body: plainBody}})
	frame := 8 + len(record)
	if n := stepsOf(nil, op); n != 2 {
		t.Fatalf("an inject has %d steps", n)
	}
	fresh := seen(0, impl.Verdict{}, impl.Verdict{})
	for _, keep := range keeps(record) {
		for at := -2; at < 5; at++ {
			what := fmt.Sprintf("a crash at %d that keeps %d of %d", at, keep, frame)
			ops := script(crashing(op, at, keep), lookOp(1), op, lookOp(1), lookOp(2))
			switch {
			case at != 1 && at != 2:
				mustAnswer(t, what, ops, plainly(1), fresh, plainly(2), fresh, fresh)
			case at == 2 && keep >= frame:
				mustAnswer(t, what, ops, coded(impl.ACrash), fresh, plainly(2), fresh, fresh)
			default:
				mustAnswer(t, what, ops, coded(impl.ACrash), coded(impl.AUnknown), plainly(1), fresh, coded(impl.AUnknown))
			}
		}
	}
	// What a crash tore is gone for good: the records behind it are read.
	for keep := range frame {
		ops := script(crashing(op, 2, keep), op, crashing(op, 2, keep), op, crashing(compactOp(), 1, 0), lookOp(1), lookOp(2), lookOp(3))
		mustAnswer(t, fmt.Sprint("torn at ", keep), ops, plainly(2), coded(impl.ACrash), fresh, fresh, coded(impl.AUnknown))
	}
}

func TestAnInjectWhoseSyncFails(t *testing.T) {
	op := injectOp(me, "x@a.x")
	fresh := seen(0, impl.Verdict{})
	for at := -2; at < 5; at++ {
		ops := script(failing(op, at), lookOp(1), compactOp(), op, lookOp(1), lookOp(2), lookOp(3))
		if at != 1 {
			mustAnswer(t, fmt.Sprint("fails at ", at), ops, plainly(1), fresh, plainly(2), plainly(2), fresh, fresh, coded(impl.AUnknown))
			continue
		}
		mustAnswer(t, "fails", ops, coded(impl.ADisk), coded(impl.AUnknown), plainly(1), plainly(1), fresh, coded(impl.AUnknown), coded(impl.AUnknown))
	}
	// What was lost by a failure isn't there for a later crash to keep, or a later sync.
	again := script(failing(op, 1), crashing(op, 1, math.MaxInt), lookOp(1), op, lookOp(1), lookOp(2))
	mustAnswer(t, "a crash behind it", again, coded(impl.ADisk), coded(impl.ACrash), coded(impl.AUnknown), plainly(1), fresh, coded(impl.AUnknown))
	other := injectOp("", "y@b.x", "z@c.x")
	mustAnswer(t, "another behind it", script(failing(op, 1), other, lookOp(1), lookOp(2)), plainly(1), seen(0, impl.Verdict{}, impl.Verdict{}), coded(impl.AUnknown))
}

func TestAnInjectThatCrashesAndFails(t *testing.T) {
	op := injectOp(me, "x@a.x")
	fresh := seen(0, impl.Verdict{})
	for _, keep := range []int{0, math.MaxInt} {
		for _, fail := range []int{1, 2} {
			mustAnswer(t, "crash ahead of the record", script(failing(crashing(op, 1, keep), fail), lookOp(1)), coded(impl.ACrash), coded(impl.AUnknown))
		}
	}
	mustAnswer(t, "crash ahead of the failing sync", script(failing(crashing(op, 2, math.MaxInt), 1), lookOp(1)), coded(impl.ACrash), fresh)
	mustAnswer(t, "crash ahead of the failing sync", script(failing(crashing(op, 2, 0), 1), lookOp(1)), coded(impl.ACrash), coded(impl.AUnknown))
	mustAnswer(t, "a crash that never comes", script(failing(crashing(op, 3, math.MaxInt), 1), lookOp(1)), coded(impl.ADisk), coded(impl.AUnknown))
}

// tale is a script in which each message is its own: its recipients have the number of
// its operation in their names, and its body has it.
type tale struct {
	ops  []impl.Op
	outs []impl.Out
}

func mark(n int) string { return fmt.Sprintf("Message: %d\r\n", n) }

// randomTale leans to few messages that live long; every operation is followed by a
// look at the first messages.
func randomTale(t *testing.T, r *rand.Rand, looks int) tale {
	var ops []impl.Op
	for _, op := range randomScript(r, 30) {
		if op.Kind == impl.OInject {
			op.Body = mark(len(ops))
			for i := range op.Rcpts {
				op.Rcpts[i] = fmt.Sprintf("%d.%d@%s", len(ops), i, domainOfAddress(op.Rcpts[i]))
			}
			if r.Intn(6) == 0 {
				op.Rcpts = append(op.Rcpts, "wrong")
			}
		}
		ops = append(ops, op)
		for id := range looks {
			ops = append(ops, lookOp(int64(id+1)))
		}
	}
	ops = ops[:min(len(ops), 300)]
	return tale{ops, mustPlay(t, "a tale", ops)}
}

// The promise as it stands, whatever the model says: what is answered AOk is there
// with its envelope until a tick drops it, and then it never comes back.
func TestWhatIsTakenIsKept(t *testing.T) {
	r := rand.New(rand.NewSource(82))
	taken, sentBodies := 0, 0
	for range 120 {
		tale := randomTale(t, r, 6)
		owner := map[int64]int{} // the operation that a number belongs to
		alive := map[int64]bool{}
		last := 0
		for i, op := range tale.ops {
			out := tale.outs[i]
			if op.Kind != impl.OLook {
				last = i
			}
			switch {
			case op.Kind == impl.OLook && op.Num > 6:
				// Only the first messages are looked at all the time.
			case op.Kind == impl.OInject && out.Code == impl.AOk:
				if _, known := owner[out.Num]; known {
					t.Fatalf("number %d is given twice, in%s", out.Num, toldOps(tale.ops[:i+1]))
				}
				owner[out.Num], alive[out.Num], taken = i, true, taken+1
			case op.Kind == impl.OLook && out.Code == impl.AOk:
				at, known := owner[op.Num]
				if !known && tale.ops[last].Kind == impl.OInject && tale.outs[last].Code == impl.ACrash {
					// A crash may have kept it.
					at, owner[op.Num], alive[op.Num] = last, last, true
				}
				if !alive[op.Num] || len(out.Verdicts) != len(tale.ops[at].Rcpts) {
					t.Fatalf("message %d is there, but should not be as it is: %v, in%s", op.Num, out, toldOps(tale.ops[:i+1]))
				}
			case op.Kind == impl.OLook && alive[op.Num]:
				if tale.ops[last].Kind != impl.OTick {
					t.Fatalf("message %d is lost behind operation %d, in%s", op.Num, last, toldOps(tale.ops[:i+1]))
				}
				alive[op.Num] = false
			}
			for _, sent := range out.Sent {
				sentBodies += mustBeOneMessage(t, tale, i, sent.Bytes)
			}
		}
	}
	if taken < 100 || sentBodies < 50 {
		t.Fatalf("only %d messages, %d bodies", taken, sentBodies)
	}
}

// mustBeOneMessage finds the inject to which a dialogue belongs, and holds the dialogue
// against its envelope and body. It answers the number of bodies that were sent.
func mustBeOneMessage(t *testing.T, tale tale, at int, sent string) int {
	t.Helper()
	from, op, bodies := "", impl.Op{}, 0
	for line := range strings.Lines(sent) {
		line = strings.TrimSuffix(line, "\r\n")
		if rest, ok := strings.CutPrefix(line, "MAIL FROM:<"); ok {
			from = strings.TrimSuffix(rest, ">")
		}
		if rest, ok := strings.CutPrefix(line, "RCPT TO:<"); ok {
			rcpt := strings.TrimSuffix(rest, ">")
			op = tale.ops[numberByHand(rcpt[:strings.Index(rcpt, ".")])]
			if !slices.Contains(op.Rcpts, rcpt) {
				t.Fatalf("%q is no recipient, in%s", rcpt, toldOps(tale.ops[:at+1]))
			}
		}
		if strings.HasPrefix(line, "Message: ") {
			bodies++
			if line+"\r\n" != op.Body {
				t.Fatalf("the body %q is not that of the recipients, in%s", line, toldOps(tale.ops[:at+1]))
			}
		}
	}
	if op.Kind != 0 && (op.Name != from || slices.Contains(op.Rcpts, "wrong")) {
		t.Fatalf("the dialogue %.300q is not one of %+v, in%s", sent, op, toldOps(tale.ops[:at+1]))
	}
	return bodies
}
