package tests

import (
	"fmt"
	"math"
	"math/rand"
	"slices"
	"testing"

	"loop.example/s01729/impl"
)

func expired(rcpt string, code int, text string) impl.Failure {
	return impl.Failure{Rcpt: rcpt, Status: "4.4.7", Code: code, Text: text}
}

func TestAMessageExpiresAtItsTime(t *testing.T) {
	for _, born := range []int64{0, 1, 1000000} {
		ahead := script(homeOp("a.x"), takeOp("a.x"), tickOp(born), injectOp(me, "x@a.x"))
		mustAnswer(t, "one second ahead", script(ahead, tickOp(431999), lookOp(1), boxOp(me)), ticked(born+431999, "a.x", delivered("x@a.x")), coded(impl.AUnknown), plainly(0))
		for _, n := range []int64{432000, 432001, 446400, 1000000} {
			mustAnswer(t, fmt.Sprint("tick ", n), script(ahead, tickOp(n), lookOp(1), boxOp(me)), ticked(born+n), coded(impl.AUnknown), boxed(expired("x@a.x", 0, "")))
		}
	}
}

// The reason that was given last goes into the bounce; what was decided stays.
func TestWhatAnExpiredMessageTells(t *testing.T) {
	rcpts := []string{"1@a.x", "2@b.x", "3@a.x", "4@c.x", "5@a.x"}
	ahead := script(homeOp("a.x"), goneZone("c.x"), speakOp("a.x", "250 ok", "450 later\xff", "550 no", "354 go", "250 done"), injectOp(me, rcpts...), tickOp(0))
	told := boxed(expired("2@b.x", 0, "no answer"), expired("3@a.x", 450, "later?"), failed("4@c.x", 550, "no such domain"), failed("5@a.x", 550, "no"))
	mustAnswer(t, "expired", script(ahead, tickOp(432000), lookOp(1), boxOp(me)), ticked(432000), coded(impl.AUnknown), told)
	// The two verdicts and their sync, the bounce, the KBounce and its sync, the KDrop and its.
	if n := stepsOf(ahead, tickOp(432000)); n != 8 {
		t.Fatalf("%d steps", n)
	}
	verdicts := []impl.Verdict{fine("done"), {Kind: impl.VExpired, Text: "no answer"}, {Kind: impl.VExpired, Code: 450, Text: "later\xff"}, perm(550, "no such domain"), perm(550, "no")}
	mustAnswer(t, "crashed", script(ahead, crashing(tickOp(432000), 4, 0), lookOp(1), boxOp(me), tickOp(0), lookOp(1), boxOp(me)),
		coded(impl.ACrash), seen(1, verdicts...), plainly(0), ticked(432000), coded(impl.AUnknown), told)
	// Nothing is pending then: the next tick has the bounce alone, however late.
	if n := stepsOf(script(ahead, crashing(tickOp(432000), 4, 0)), tickOp(0)); n != 5 {
		t.Fatalf("%d steps behind the crash", n)
	}
}

func TestAnExpiryWhoseSyncFails(t *testing.T) {
	ahead := script(injectOp(me, "x@a.x"), tickOp(0))
	no := temp(0, "no answer")
	old := impl.Verdict{Kind: impl.VExpired, Text: "no answer"}
	told := boxed(expired("x@a.x", 0, "no answer"))
	gone := coded(impl.AUnknown)
	for at, want := range [][]impl.Out{
		{gone, told}, {seen(1, no), plainly(0)}, {seen(1, old), told}, {seen(1, old), told}, {gone, told},
	} {
		mustAnswer(t, fmt.Sprint("the sync ", at), script(ahead, failing(tickOp(432000), at), lookOp(1), boxOp(me), tickOp(0), lookOp(1), boxOp(me)),
			ticked(432000), want[0], want[1], ticked(432000), gone, told)
	}
}

func TestAnExpiryThatCrashes(t *testing.T) {
	ahead := script(injectOp(me, "x@a.x", "y@a.x"), tickOp(0))
	no, old := temp(0, "no answer"), impl.Verdict{Kind: impl.VExpired, Text: "no answer"}
	record := packByHand(verdict(1, 0, old))
	gone := coded(impl.AUnknown)
	for at, want := range map[int][]impl.Out{
		1: {seen(1, no, no), seen(1, no, no)}, 2: {seen(1, no, no), seen(1, old, no)}, 3: {seen(1, no, no), seen(1, old, no)}, 4: {seen(1, old, old), seen(1, old, old)},
		9: {gone, gone},
	} {
		for i, keep := range []int{7 + len(record), 8 + len(record)} {
			code := choice(at == 9, ticked(432000), coded(impl.ACrash))
			mustAnswer(t, fmt.Sprint("a crash at ", at, " that keeps ", keep), script(ahead, crashing(tickOp(432000), at, keep), lookOp(1), tickOp(0), lookOp(1), boxOp(me)),
				code, want[i], ticked(432000), gone, boxed(expired("x@a.x", 0, "no answer"), expired("y@a.x", 0, "no answer")))
		}
	}
}

// A message that isn't due isn't handled, even if its time is over.
func TestAnExpiredMessageWaitsForItsTurn(t *testing.T) {
	ahead := script(injectOp(me, "x@a.x"), tickOp(0), tickOp(431999))
	no := temp(0, "no answer")
	mustAnswer(t, "not due", script(ahead, tickOp(119), lookOp(1), tickOp(1), lookOp(1)), plainly(432118), seen(2, no), plainly(432119), coded(impl.AUnknown))
}

// The last try just ahead of the end, with the longest delay behind it: one second
// ahead of the promise's time the message is due.
func TestTheLatestDrop(t *testing.T) {
	for _, born := range []int64{0, 77} {
		ops := script(tickOp(born), injectOp(me, "x@a.x"))
		rest := int64(431999)
		for _, delay := range []int64{0, 60, 120, 240, 480, 960, 1920, 3840, 7680} {
			ops = append(ops, tickOp(delay))
			rest -= delay
		}
		ops = append(ops, tickOp(rest), lookOp(1))
		no := temp(0, "no answer")
		mustAnswer(t, "the last try", ops, plainly(born+431999), seen(10, no))
		mustAnswer(t, "two seconds ahead", script(ops, tickOp(14399), lookOp(1)), plainly(born+446398), seen(10, no))
		mustAnswer(t, "one second ahead", script(ops, tickOp(14400), lookOp(1)), plainly(born+446399), coded(impl.AUnknown))
		mustAnswer(t, "at the time", script(ops, tickOp(14401), lookOp(1)), plainly(born+446400), coded(impl.AUnknown))
		mustAnswer(t, "at the time, in two ticks", script(ops, tickOp(14399), tickOp(2), lookOp(1)), plainly(born+446400), coded(impl.AUnknown))
	}
}

// A tick whose crash and failure stand behind its last step has neither.
func TestAQuietTickDrops(t *testing.T) {
	ahead := script(injectOp(me, "x@a.x"), injectOp("", "y@a.x"))
	// Seven steps and three syncs of the first, four and two of the second.
	if n := stepsOf(ahead, tickOp(446400)); n != 11 {
		t.Fatalf("%d steps", n)
	}
	for _, at := range []int{12, 100, 0, -1, math.MaxInt, math.MinInt} {
		ops := script(ahead, failing(crashing(tickOp(446400), at, 0), at), lookOp(1), lookOp(2))
		mustAnswer(t, fmt.Sprint("at ", at), ops, plainly(446400), coded(impl.AUnknown), coded(impl.AUnknown))
	}
	mustAnswer(t, "the sixth sync", script(ahead, failing(tickOp(446400), 6), lookOp(2)), plainly(446400), coded(impl.AUnknown))
	mustAnswer(t, "the fifth sync", script(ahead, failing(tickOp(446400), 5), lookOp(2)), plainly(446400), seen(0, impl.Verdict{Kind: impl.VExpired}))
}

func TestAFullQueueExpires(t *testing.T) {
	var ops []impl.Op
	for i := range 30 {
		ops = append(ops, injectOp(choice(i%3 == 0, "", me), addresses(1+i%20)...), tickOp(int64(i%4)))
	}
	ops = append(ops, tickOp(446400))
	for i := range 30 {
		ops = append(ops, lookOp(int64(i+1)))
	}
	outs := mustPlay(t, "a full queue", script(ops, boxOp(me), compactOp()))
	for i, out := range outs[len(ops)-30 : len(ops)] {
		if out.Code != impl.AUnknown {
			t.Fatalf("message %d is there: %v", i+1, out)
		}
	}
	if outs[len(ops)].Num != 20 || outs[len(ops)+1].Num != 1 {
		t.Fatalf("%v", outs[len(ops):])
	}
}

// The promise as it stands, whatever the model says: whatever has happened, a quiet
// tick at the time leaves nothing.
func TestNothingIsLeftInTheEnd(t *testing.T) {
	r := rand.New(rand.NewSource(85))
	left := 0
	for range 80 {
		ops := randomScript(r, 40)
		var looks []impl.Op
		for id := range 30 {
			looks = append(looks, lookOp(int64(id+1)))
		}
		quiet := tickOp(446400)
		if r.Intn(2) == 0 {
			// A message that was born later than the others has its own time.
			ops = append(ops, tickOp(14400), injectOp(me, "x@a.x", "y@b.x"), tickOp(1), tickOp(431998))
			quiet.Num = 14401
		} else {
			ops = append(ops, slices.Repeat([]impl.Op{injectOp(me, "x@c.x")}, 3)...)
		}
		outs := mustPlay(t, "the end", script(ops, looks, quiet, looks))
		for i := range looks {
			left += choice(outs[len(ops)+i].Code == impl.AOk, 1, 0)
			if out := outs[len(ops)+len(looks)+1+i]; out.Code != impl.AUnknown {
				t.Fatalf("message %d is left: %v, in%s", i+1, out, toldOps(script(ops, quiet)))
			}
		}
	}
	if left < 100 {
		t.Fatalf("only %d messages", left)
	}
}
