package tests

import (
	"fmt"
	"math"
	"math/rand"
	"strings"
	"testing"

	"loop.example/s01729/impl"
)

func TestTriesAndDelays(t *testing.T) {
	ops := script(homeOp("a.x"), denyOp("a.x", 1, 450), injectOp(me, "x@a.x"), tickOp(0))
	clock := int64(0)
	for tries, delay := range []int64{60, 120, 240, 480, 960, 1920, 3840, 7680, 14400, 14400, 14400} {
		mustAnswer(t, fmt.Sprint("try ", tries+1), script(ops, lookOp(1), tickOp(delay-1), lookOp(1)),
			seen(int64(tries+1), temp(450, "no")), ticked(clock+delay-1), seen(int64(tries+1), temp(450, "no")))
		clock += delay
		ops = append(ops, tickOp(delay))
		mustAnswer(t, fmt.Sprint("try ", tries+2), ops, ticked(clock, "a.x", denied("x@a.x")))
	}
}

// The delay is counted from the clock of the try, however late it was.
func TestLateTries(t *testing.T) {
	ops := script(injectOp(me, "x@a.x"), tickOp(1000), tickOp(5000), lookOp(1), tickOp(119), lookOp(1), tickOp(1), lookOp(1))
	no := temp(0, "no answer")
	mustAnswer(t, "late tries", ops, plainly(1000), plainly(6000), seen(2, no), plainly(6119), seen(2, no), plainly(6120), seen(3, no))
}

func TestTheDecidedAreTriedNoMore(t *testing.T) {
	rcpts := []string{"1@a.x", "2@a.x", "3@a.x", "4@b.x", "5@c.x", "6@a.x"}
	first := speakOp("a.x", "250 ok", "450 later", "550 never", "451 hm", "354 go", "250 done")
	ahead := script(homeOp("a.x"), homeOp("b.x"), zoneOp("c.x", impl.Zone{Kind: impl.ZGone}), first, serverOp("b.x"), injectOp(me, rcpts...))
	gone := perm(550, "no such domain")
	mustTry(t, "the first tick", ahead, []string{"a.x", delivered("1@a.x", "2@a.x", "3@a.x", "6@a.x"), "b.x", ""},
		fine("done"), temp(450, "later"), perm(550, "never"), temp(0, "closed"), gone, temp(451, "hm"))
	second := script(ahead, tickOp(0), speakOp("a.x", "550 no", "450 wait"), homeOp("c.x"), takeOp("c.x"), takeOp("b.x"), tickOp(60), lookOp(1))
	mustAnswer(t, "the second tick", second, ticked(60, "a.x", denied("2@a.x", "6@a.x"), "b.x", delivered("4@b.x")),
		seen(2, fine("done"), perm(550, "no"), perm(550, "never"), fine("done"), gone, temp(450, "wait")))
	third := script(second, takeOp("a.x"), tickOp(120), lookOp(1))
	mustAnswer(t, "the third tick", third, ticked(180, "a.x", delivered("6@a.x")), coded(impl.AUnknown))
}

// The groups of a later tick stand in the order of their first pending recipients.
func TestGroupsOfThePending(t *testing.T) {
	ahead := script(homeOp("a.x"), homeOp("b.x"), speakOp("a.x", "250 ok", "450 later", "354 go", "250 done"), denyOp("b.x", 1, 450), injectOp(me, "1@a.x", "2@b.x", "3@a.x"), tickOp(0))
	mustAnswer(t, "the groups change places", script(ahead, tickOp(60)), ticked(60, "b.x", denied("2@b.x"), "a.x", stopped("3@a.x")))
}

// stopped is what is sent to a server that takes the only recipient and then refuses the body.
func stopped(rcpt string) string {
	return said(append(asked(rcpt), "DATA", "QUIT")...)
}

func TestADeliveryThatCrashes(t *testing.T) {
	ahead := script(homeOp("a.x"), takeOp("a.x"), injectOp(me, "x@a.x"))
	if n := stepsOf(ahead, tickOp(0)); n != 4 {
		t.Fatalf("a delivery has %d steps", n)
	}
	sent := ticked(0, "a.x", delivered("x@a.x"))
	crashed := impl.Out{Code: impl.ACrash, Sent: sent.Sent}
	record := packByHand(verdict(1, 0, fine("done")))
	last := packByHand(drop(1))
	for _, keep := range keeps(record, last) {
		ops := func(at int) []impl.Op {
			return script(ahead, crashing(tickOp(0), at, keep), lookOp(1), tickOp(0), lookOp(1))
		}
		again := []impl.Out{crashed, seen(0, impl.Verdict{}), sent, coded(impl.AUnknown)}
		once := []impl.Out{crashed, seen(0, fine("done")), ticked(0), coded(impl.AUnknown)}
		dropped := []impl.Out{crashed, coded(impl.AUnknown), ticked(0), coded(impl.AUnknown)}
		what := fmt.Sprint("keep ", keep)
		mustAnswer(t, what+", ahead of the verdict", ops(1), again...)
		mustAnswer(t, what+", ahead of the verdict's sync", ops(2), choice(keep >= 8+len(record), once, again)...)
		mustAnswer(t, what+", ahead of the drop", ops(3), once...)
		mustAnswer(t, what+", ahead of the drop's sync", ops(4), choice(keep >= 8+len(last), dropped, once)...)
		mustAnswer(t, what+", behind it all", ops(5), sent, coded(impl.AUnknown), ticked(0), coded(impl.AUnknown))
		mustAnswer(t, what+", never", ops(0), sent, coded(impl.AUnknown), ticked(0), coded(impl.AUnknown))
	}
}

func choice[T any](first bool, a, b T) T {
	if first {
		return a
	}
	return b
}

func TestADeliveryWhoseSyncFails(t *testing.T) {
	ahead := script(homeOp("a.x"), takeOp("a.x"), injectOp(me, "x@a.x"))
	sent := ticked(0, "a.x", delivered("x@a.x"))
	ops := func(at int) []impl.Op { return script(ahead, failing(tickOp(0), at), lookOp(1), tickOp(0), lookOp(1)) }
	mustAnswer(t, "the verdict's sync", ops(1), sent, seen(0, impl.Verdict{}), sent, coded(impl.AUnknown))
	mustAnswer(t, "the drop's sync", ops(2), sent, seen(0, fine("done")), ticked(0), coded(impl.AUnknown))
	for _, at := range []int{-1, 0, 3, 4, math.MaxInt, math.MinInt} {
		mustAnswer(t, fmt.Sprint("sync ", at), ops(at), sent, coded(impl.AUnknown), ticked(0), coded(impl.AUnknown))
	}
	// A crash ahead of a step that a failed sync left out never comes.
	both := func(fail, crash int) []impl.Op {
		return script(ahead, failing(crashing(tickOp(0), crash, math.MaxInt), fail), lookOp(1))
	}
	crashed := impl.Out{Code: impl.ACrash, Sent: sent.Sent}
	mustAnswer(t, "crash ahead of the failing sync", both(1, 2), crashed, seen(0, fine("done")))
	mustAnswer(t, "crash behind the failed sync", both(1, 3), sent, seen(0, impl.Verdict{}))
	mustAnswer(t, "crash ahead of the second record", both(2, 3), crashed, seen(0, fine("done")))
	mustAnswer(t, "crash ahead of the second sync", both(2, 4), crashed, coded(impl.AUnknown))
}

// A failed sync stops the message, but not those behind it, and leaves its try as it was.
func TestAFailureStopsOneMessage(t *testing.T) {
	ahead := script(homeOp("a.x"), homeOp("b.x"), takeOp("a.x"), denyOp("b.x", 1, 450), injectOp(me, "1@a.x", "2@b.x", "3@c.x"), injectOp(me, "4@b.x"))
	a, b, other := delivered("1@a.x"), denied("2@b.x"), denied("4@b.x")
	none, later, no := impl.Verdict{}, temp(450, "no"), temp(0, "no answer")
	ops := func(at int) []impl.Op { return script(ahead, failing(tickOp(0), at), lookOp(1), lookOp(2), tickOp(59)) }
	mustAnswer(t, "the first group", ops(1), ticked(0, "a.x", a, "b.x", other), seen(0, none, none, none), seen(1, later), ticked(59, "a.x", a, "b.x", b))
	mustAnswer(t, "the second group", ops(2), ticked(0, "a.x", a, "b.x", b, "b.x", other), seen(0, fine("done"), none, none), seen(1, later), ticked(59, "b.x", b))
	mustAnswer(t, "the third group", ops(3), ticked(0, "a.x", a, "b.x", b, "b.x", other), seen(0, fine("done"), later, none), seen(1, later), ticked(59, "b.x", b))
	mustAnswer(t, "the try", ops(4), ticked(0, "a.x", a, "b.x", b, "b.x", other), seen(0, fine("done"), later, no), seen(1, later), ticked(59, "b.x", b))
	mustAnswer(t, "the second message", ops(5), ticked(0, "a.x", a, "b.x", b, "b.x", other), seen(1, fine("done"), later, no), seen(0, none), ticked(59, "b.x", other))
	mustAnswer(t, "its try", ops(6), ticked(0, "a.x", a, "b.x", b, "b.x", other), seen(1, fine("done"), later, no), seen(0, later), ticked(59, "b.x", other))
	mustAnswer(t, "none", ops(7), ticked(0, "a.x", a, "b.x", b, "b.x", other), seen(1, fine("done"), later, no), seen(1, later), ticked(59))
}

// A failed sync of one host's verdicts keeps the next host from being asked, and that
// of the last verdicts keeps the try from being counted.
func TestAFailureBetweenHosts(t *testing.T) {
	zone := hostsOp("a.x", "h1.x", "h2.x", "h3.x")
	ahead := script(zone, speakOp("h1.x", "250 ok", "550 no", "354 go", ""), speakOp("h2.x", "?"), injectOp(me, "1@a.x", "2@a.x"))
	one := said(append(asked("1@a.x", "2@a.x"), "DATA", ".")...)
	two := said(asked("1@a.x")...)
	none, no, refused := impl.Verdict{}, perm(550, "no"), temp(0, "refused")
	ops := func(at int) []impl.Op { return script(ahead, failing(tickOp(0), at), lookOp(1)) }
	mustAnswer(t, "the first host's", ops(1), ticked(0, "h1.x", one), seen(0, none, none))
	mustAnswer(t, "those that are left", ops(2), ticked(0, "h1.x", one, "h2.x", two), seen(0, none, no))
	mustAnswer(t, "the try's", ops(3), ticked(0, "h1.x", one, "h2.x", two), seen(0, refused, no))
	mustAnswer(t, "none", ops(4), ticked(0, "h1.x", one, "h2.x", two), seen(1, refused, no))
}

// A crash ends the whole tick: the messages behind are not handled, but the clock has
// gone on, and what was sent is told.
func TestACrashEndsTheTick(t *testing.T) {
	ahead := script(homeOp("a.x"), denyOp("a.x", 1, 450), injectOp(me, "1@a.x"), injectOp(me, "2@a.x"))
	one, two := denied("1@a.x"), denied("2@a.x")
	crashed := func(dialogues ...string) impl.Out {
		out := ticked(0, dialogues...)
		out.Code = impl.ACrash
		return out
	}
	none, no := seen(0, impl.Verdict{}), temp(450, "no")
	ops := func(at int) []impl.Op {
		return script(ahead, crashing(tickOp(7), at, 0), lookOp(1), lookOp(2), tickOp(0))
	}
	for at, want := range [][]impl.Out{
		{ticked(7, "a.x", one, "a.x", two), seen(1, no), seen(1, no), ticked(7)},
		{crashed("a.x", one), none, none, ticked(7, "a.x", one, "a.x", two)},
		{crashed("a.x", one), none, none, ticked(7, "a.x", one, "a.x", two)},
		{crashed("a.x", one), seen(0, no), none, ticked(7, "a.x", one, "a.x", two)},
		{crashed("a.x", one), seen(0, no), none, ticked(7, "a.x", one, "a.x", two)},
		{crashed("a.x", one, "a.x", two), seen(1, no), none, ticked(7, "a.x", two)},
		{crashed("a.x", one, "a.x", two), seen(1, no), none, ticked(7, "a.x", two)},
		{crashed("a.x", one, "a.x", two), seen(1, no), seen(0, no), ticked(7, "a.x", two)},
		{crashed("a.x", one, "a.x", two), seen(1, no), seen(0, no), ticked(7, "a.x", two)},
		{ticked(7, "a.x", one, "a.x", two), seen(1, no), seen(1, no), ticked(7)},
	} {
		mustAnswer(t, fmt.Sprint("a crash at ", at), ops(at), want...)
	}
	mustAnswer(t, "a crash before anything was sent", script(injectOp(me, "1@a.x"), crashing(tickOp(7), 1, 0), tickOp(1)), coded(impl.ACrash), plainly(8))
}

// Several verdicts of one journal survive a crash up to the first that is torn.
func TestTornVerdicts(t *testing.T) {
	ahead := script(homeOp("a.x"), speakOp("a.x", "550 one", "450 two", "551 three", "221 bye"), injectOp(me, "1@a.x", "2@a.x", "3@a.x"))
	verdicts := []impl.Verdict{perm(550, "one"), temp(450, "two"), perm(551, "three")}
	var records []string
	for i, v := range verdicts {
		records = append(records, packByHand(verdict(1, i, v)))
	}
	for _, keep := range keeps(records...) {
		for at := 1; at <= 4; at++ {
			want := make([]impl.Verdict, 3)
			copy(want, verdicts[:len(wholeAhead(records[:at-1], keep))])
			outs := mustPlay(t, "torn verdicts", script(ahead, crashing(tickOp(0), at, keep), lookOp(1)))
			if got := outs[len(outs)-1]; !same(got, seen(0, want...)) || outs[len(outs)-2].Code != impl.ACrash {
				t.Fatalf("a crash at %d that keeps %d: %v, not %v", at, keep, got, want)
			}
		}
	}
}

// The promise as it stands, whatever the model says: whoever has been seen with a
// final verdict is never named to a server again.
func TestFinalIsFinal(t *testing.T) {
	r := rand.New(rand.NewSource(83))
	finals, tried := 0, 0
	for range 120 {
		tale := randomTale(t, r, 6)
		owner := map[int64]int{}
		final := map[string]impl.Verdict{}
		last := 0
		for i, op := range tale.ops {
			out := tale.outs[i]
			if op.Kind != impl.OLook {
				last = i
			}
			if op.Kind == impl.OLook && op.Num <= 6 && out.Code == impl.AOk {
				if _, known := owner[op.Num]; !known {
					owner[op.Num] = last
				}
				finals += mustStayFinal(t, tale.ops[owner[op.Num]].Rcpts, out.Verdicts, final)
			}
			for _, sent := range out.Sent {
				for rcpt := range final {
					if strings.Contains(sent.Bytes, "RCPT TO:<"+rcpt+">") {
						t.Fatalf("%s is tried again, in%s", rcpt, toldOps(tale.ops[:i+1]))
					}
				}
				tried += strings.Count(sent.Bytes, "RCPT")
			}
		}
	}
	if finals < 50 || tried < 500 {
		t.Fatalf("only %d final verdicts, %d tries", finals, tried)
	}
}

// mustStayFinal notes the final verdicts of the recipients, holds them against those
// that were noted before, and answers the number of those that are new.
func mustStayFinal(t *testing.T, rcpts []string, verdicts []impl.Verdict, final map[string]impl.Verdict) int {
	t.Helper()
	fresh := 0
	for i, v := range verdicts {
		old, known := final[rcpts[i]]
		if known && old != v {
			t.Fatalf("%s had the verdict %v and has %v", rcpts[i], old, v)
		}
		if !known && !pendingByHand(v) {
			final[rcpts[i]] = v
			fresh++
		}
	}
	return fresh
}
