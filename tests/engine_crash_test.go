package tests

import (
	"fmt"
	"math"
	"math/rand"
	"slices"
	"testing"

	"loop.example/s01729/impl"
)

func TestRandomScripts(t *testing.T) {
	r := rand.New(rand.NewSource(81))
	codes := map[string]int{}
	for range 300 {
		ops := randomScript(r, 40)
		for i, out := range mustPlay(t, "a random script", ops) {
			codes[fmt.Sprint(ops[i].Kind, "/", out.Code)]++
			codes["dialogues"] += len(out.Sent)
			codes["bounces"] += len(out.Texts)
		}
	}
	for _, what := range []string{"1/0", "1/3", "1/4", "2/0", "2/4", "3/0", "4/0", "5/0", "5/5", "6/0", "7/0", "7/4", "dialogues", "bounces"} {
		if codes[what] < 40 {
			t.Fatalf("too few of %s: %v", what, codes)
		}
	}
}

// A script that is played again, or beside others, is answered in the same way.
func TestOneRightOutcome(t *testing.T) {
	r := rand.New(rand.NewSource(86))
	ops := script(randomScript(r, 60), randomScript(r, 60))
	want := mustPlay(t, "once", ops)
	answers := make(chan []impl.Out)
	for range 20 {
		go func() { answers <- impl.Play(ops) }()
	}
	for range 20 {
		if got := <-answers; !same(got, want) {
			t.Errorf("another outcome: %v, not %v", got, want)
		}
	}
	// Nothing is kept: a new script begins with nothing.
	mustAnswer(t, "a new script", script(lookOp(1), tickOp(0), boxOp(me), compactOp(), injectOp(me, "x@a.x"), tickOp(0), lookOp(1)),
		coded(impl.AUnknown), plainly(0), plainly(0), plainly(1), plainly(1), ticked(0), seen(1, temp(0, "no answer")))
}

// A compaction has three steps; a crash ahead of any of them leaves the queue as it is.
func TestACompactionThatCrashes(t *testing.T) {
	ahead := script(homeOp("a.x"), speakOp("a.x", "250 ok", "450 later", "354 go", "250 done"), injectOp(me, "x@a.x", "y@a.x"), injectOp("", "z@b.x"), tickOp(0))
	one, two := seen(1, fine("done"), temp(450, "later")), seen(1, temp(0, "no answer"))
	for _, before := range [][]impl.Op{nil, ahead} {
		if n := stepsOf(before, compactOp()); n != 3 {
			t.Fatalf("a compaction has %d steps", n)
		}
	}
	records := plainly(8)
	for at := -1; at < 6; at++ {
		for _, keep := range []int{math.MinInt, -1, 0, 1, 8, 50, 100, 150, math.MaxInt} {
			answer := records
			if within(at, 1, 3) {
				answer = coded(impl.ACrash)
			}
			for fail := range 3 {
				op := failing(crashing(compactOp(), at, keep), fail)
				mustAnswer(t, fmt.Sprintf("a crash at %d that keeps %d", at, keep), script(ahead, op, lookOp(1), lookOp(2), compactOp(), lookOp(1), lookOp(2), injectOp(me, "x@a.x")),
					answer, one, two, records, one, two, plainly(3))
			}
		}
	}
}

// A compaction has no sync that could fail.
func TestCompactionsDoNotFail(t *testing.T) {
	for at := -1; at < 5; at++ {
		ops := script(injectOp(me, "x@a.x"), failing(compactOp(), at), lookOp(1), lookOp(2))
		mustAnswer(t, fmt.Sprint("fails at ", at), ops, plainly(2), seen(0, impl.Verdict{}), coded(impl.AUnknown))
	}
}

// scenes is scripts behind which a tick of so many seconds does much.
func scenes() []struct {
	ahead []impl.Op
	tick  int64
} {
	zones := script(homeOp("a.x"), hostsOp("b.x", "h1.x", "h2.x"), goneZone("c.x"), zoneOp("d.x", okZone(impl.MX{Host: "."})))
	servers := script(speakOp("a.x", "250 ok", "550 no", "354 go", "250 done", "221 bye"), speakOp("h1.x", "250 ok", "450 later", "354 go", ""), speakOp("h2.x", "550 never"))
	world := script(zones, servers)
	return []struct {
		ahead []impl.Op
		tick  int64
	}{
		{script(world, injectOp(me, "1@a.x", "2@a.x")), 0},
		{script(world, injectOp(me, "1@c.x"), injectOp("", "2@d.x"), injectOp(me, "3@e.x")), 1},
		{script(world, injectOp(me, "1@b.x", "2@b.x", "3@b.x"), injectOp(me, "4@a.x")), 0},
		{script(world, injectOp(me, "1@b.x", "2@a.x", "3@b.x"), tickOp(0), takeOp("h1.x")), 60},
		{script(world, injectOp(me, "1@e.x", "2@a.x", "3@e.x"), tickOp(0), injectOp("", "1@e.x")), 432000},
		{script(world, injectOp(me, "1@c.x", "2@e.x"), tickOp(0), goneZone("e.x"), compactOp()), 60},
	}
}

// probes is what shows the world behind a tick.
func probes() []impl.Op {
	return script(lookOp(1), lookOp(2), lookOp(3), boxOp(me), compactOp(), tickOp(0), lookOp(1), lookOp(2), lookOp(3), boxOp(me), compactOp(), injectOp(me, "9@a.x"), tickOp(120), boxOp(me))
}

func TestCrashesAtEachStep(t *testing.T) {
	few := []int{math.MinInt, -1, 0, 5, 11, 25, 27, 28, 29, 30, 31, 40, 60, 90, math.MaxInt}
	for i, s := range scenes() {
		steps := stepsOf(s.ahead, tickOp(s.tick))
		if steps < 5 {
			t.Fatalf("scene %d has %d steps only", i, steps)
		}
		for at := -1; at <= steps+1; at++ {
			for _, keep := range few {
				what := fmt.Sprintf("scene %d, a crash at %d that keeps %d", i, at, keep)
				outs := mustPlay(t, what, script(s.ahead, crashing(tickOp(s.tick), at, keep), probes()))
				if crashed := outs[len(s.ahead)].Code == impl.ACrash; crashed != within(at, 1, steps) {
					t.Fatalf("%s: %v", what, outs[len(s.ahead)])
				}
			}
		}
	}
}

func TestFailuresOfEachSync(t *testing.T) {
	for i, s := range scenes() {
		for at := -1; at < 8; at++ {
			what := fmt.Sprintf("scene %d, the sync %d fails", i, at)
			outs := mustPlay(t, what, script(s.ahead, failing(tickOp(s.tick), at), probes()))
			if outs[len(s.ahead)].Code != impl.AOk {
				t.Fatalf("%s: %v", what, outs[len(s.ahead)])
			}
			// A crash and a failure in one operation, in every order.
			for crash := 2; at > 0 && crash < 16; crash++ {
				for _, keep := range []int{0, math.MaxInt} {
					op := failing(crashing(tickOp(s.tick), crash, keep), at)
					mustPlay(t, fmt.Sprint(what, ", and a crash at ", crash), script(s.ahead, op, probes()))
				}
			}
		}
	}
}

// Behind a crash or a failed sync each operation answers from what the disk holds.
func TestEachOperationBehindACrash(t *testing.T) {
	ahead := script(homeOp("a.x"), goneZone("b.x"), takeOp("a.x"), injectOp(me, "1@c.x"))
	hurt := [][]impl.Op{
		{crashing(injectOp(me, "2@a.x"), 1, 0)}, {crashing(injectOp(me, "2@a.x"), 2, 20)}, {failing(injectOp(me, "2@a.x"), 1)},
		{crashing(compactOp(), 2, 10)}, {crashing(injectOp(me, "2@a.x"), 2, 20), failing(injectOp(me, "2@a.x"), 1), crashing(compactOp(), 3, 0)},
	}
	for _, h := range hurt {
		behind := script(ahead, h)
		what := toldOps(h)
		mustAnswer(t, what, script(behind, lookOp(1), lookOp(2)), seen(0, impl.Verdict{}), coded(impl.AUnknown))
		mustAnswer(t, what, script(behind, injectOp(me, "3@a.x"), tickOp(0)), plainly(2), ticked(0, "a.x", delivered("3@a.x")))
		mustAnswer(t, what, script(behind, compactOp(), lookOp(1)), plainly(2), seen(0, impl.Verdict{}))
		mustAnswer(t, what, script(behind, boxOp(me)), plainly(0))
		mustAnswer(t, what, script(behind, goneZone("c.x"), tickOp(3), lookOp(1), boxOp(me)), ticked(3), coded(impl.AUnknown), boxed(failed("1@c.x", 550, "no such domain")))
		mustAnswer(t, what, script(behind, homeOp("c.x"), takeOp("c.x"), tickOp(0), lookOp(1)), coded(impl.AOk), coded(impl.AOk), ticked(0, "c.x", delivered("1@c.x")), coded(impl.AUnknown))
	}
}

// Boxes, zones, servers and the clock are not touched by a crash.
func TestWhatACrashLeavesAlone(t *testing.T) {
	ahead := script(homeOp("a.x"), goneZone("b.x"), takeOp("a.x"), tickOp(9), injectOp(me, "1@b.x"), tickOp(0))
	told := boxed(failed("1@b.x", 550, "no such domain"))
	for _, op := range []impl.Op{crashing(injectOp(me, "2@a.x"), 1, 0), crashing(compactOp(), 1, 0), crashing(compactOp(), 3, 0)} {
		mustAnswer(t, "behind a crash", script(ahead, op, boxOp(me), injectOp(me, "3@a.x", "4@b.x"), tickOp(1), lookOp(2)),
			coded(impl.ACrash), told, plainly(2), ticked(10, "a.x", delivered("3@a.x")), coded(impl.AUnknown))
	}
}

// The lists of one answer and those of another are each their own, and so are those of
// the script: mustPlay asks it of every script, and this one has many of each.
func TestManyAnswersShareNothing(t *testing.T) {
	world := script(homeOp("a.x"), speakOp("a.x", "450 later", "550 no"), goneZone("b.x"))
	mail := injectOp(me, "1@a.x", "2@a.x", "3@b.x")
	looks := script(lookOp(1), lookOp(1), lookOp(2), boxOp(me), boxOp(me))
	mustPlay(t, "many lists", script(world, mail, mail, looks, tickOp(0), looks, tickOp(60), looks, crashing(tickOp(120), 3, 0), looks, tickOp(432000), looks, slices.Repeat(looks, 3)))
}
