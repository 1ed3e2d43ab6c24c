package tests

import (
	"fmt"
	"math"
	"slices"
	"strings"
	"testing"

	"loop.example/s01729/impl"
)

func TestScriptsOfEachLength(t *testing.T) {
	for _, n := range []int{0, 1, 2, 299, 300, 301, 302, 600, 1000} {
		want := n
		if n > 300 {
			want = 0
		}
		for _, op := range []impl.Op{{}, lookOp(1), tickOp(1), compactOp(), injectOp(me, "x@a.x")} {
			if got := len(mustPlay(t, fmt.Sprint(n, " operations"), slices.Repeat([]impl.Op{op}, n))); got != want {
				t.Fatalf("%d operations: %d answers, not %d", n, got, want)
			}
		}
	}
}

func TestTheAnswersOfAFullScript(t *testing.T) {
	ops := slices.Repeat([]impl.Op{tickOp(7)}, 300)
	for i, out := range mustPlay(t, "a full script", ops) {
		if !same(out, plainly(int64(7*(i+1)))) {
			t.Fatalf("answer %d of a full script: %v", i, out)
		}
	}
}

// everyField is an operation that holds something right for each kind.
func everyField() impl.Op {
	return impl.Op{Name: "a.x", Rcpts: []string{"x@a.x"}, Body: plainBody, Num: 1, Zone: impl.Zone{Kind: impl.ZGone}, Replies: lines("220 hi"), CrashAt: 1, FailAt: 1, Keep: 5}
}

func TestKindsThatAreNone(t *testing.T) {
	ahead := script(homeOp("a.x"), takeOp("a.x"), injectOp(me, "x@a.x"))
	for _, kind := range []int{0, -1, -7, 8, 9, 100, math.MinInt, math.MaxInt} {
		op := everyField()
		op.Kind = kind
		ops := script(ahead, op, lookOp(1), tickOp(0))
		mustAnswer(t, fmt.Sprint("kind ", kind), ops, coded(impl.AMalformed), seen(0, impl.Verdict{}), ticked(0, "a.x", delivered("x@a.x")))
	}
}

var wrongDomains = []string{
	"", ".", "-", "A", "a_b", "a b", ".a", "a.", "a..b", "-a", "a-", "a.-b", "a-.b", "x@a.x", "a\x00", "é", "a.x\r\n",
	strings.Repeat("a", 64), strings.Repeat("a.", 50) + "b",
}

var rightDomains = []string{"a", "0", "a-b", "a.x", "a--b.0", strings.Repeat("a", 63), strings.Repeat("ab.", 33) + "c"}

func TestNamesOfZonesAndServers(t *testing.T) {
	long := slices.Repeat([]string{"220 hi\r\n"}, 60)
	for _, name := range wrongDomains {
		mustAnswer(t, fmt.Sprintf("name %q", name), script(homeOp(name), serverOp(name), awayOp(name), serverOp(name, long...)),
			coded(impl.AMalformed), coded(impl.AMalformed), coded(impl.AMalformed), coded(impl.AMalformed))
	}
	for _, name := range rightDomains {
		mustAnswer(t, fmt.Sprintf("name %q", name), script(homeOp(name), serverOp(name), awayOp(name), serverOp(name, long...)),
			coded(impl.AOk), coded(impl.AOk), coded(impl.AOk), coded(impl.AOk))
	}
}

func TestZonesFromNowOn(t *testing.T) {
	rest := script(takeOp("a.x"), injectOp(me, "x@a.x"))
	mustAnswer(t, "no zone", script(rest, tickOp(0), lookOp(1)), ticked(0), seen(1, temp(0, "no answer")))
	mustAnswer(t, "a zone", script(homeOp("a.x"), rest, tickOp(0)), ticked(0, "a.x", delivered("x@a.x")))
	mustAnswer(t, "another's zone", script(homeOp("x.a.x"), homeOp("x"), homeOp("a"), rest, tickOp(0)), ticked(0))
	fails := zoneOp("a.x", impl.Zone{Kind: impl.ZFail})
	mustAnswer(t, "the second zone", script(homeOp("a.x"), fails, rest, tickOp(0)), ticked(0))
	mustAnswer(t, "the third zone", script(homeOp("a.x"), fails, homeOp("a.x"), rest, tickOp(0)), ticked(0, "a.x", delivered("x@a.x")))
	mustAnswer(t, "a zone behind a try", script(rest, tickOp(0), homeOp("a.x"), tickOp(59), tickOp(1)), ticked(59), ticked(60, "a.x", delivered("x@a.x")))
	empty := zoneOp("a.x", impl.Zone{})
	mustAnswer(t, "an empty zone", script(homeOp("a.x"), empty, rest, tickOp(0), lookOp(1)), ticked(0), seen(1, temp(0, "no answer")))
}

func TestNumbersOfReplies(t *testing.T) {
	rest := script(injectOp(me, "x@a.x"), tickOp(0), lookOp(1))
	for _, n := range []int{0, 1, 59, 60} {
		op := serverOp("a.x", slices.Repeat([]string{"2"}, n)...)
		mustAnswer(t, fmt.Sprint(n, " replies"), script(homeOp("a.x"), op, rest), coded(impl.AOk), plainly(1), ticked(0, "a.x", ""), seen(1, temp(0, "closed")))
	}
	for _, n := range []int{61, 62, 200} {
		for _, num := range []int64{0, 1, -1} {
			op := serverOp("a.x", slices.Repeat([]string{"2"}, n)...)
			op.Num = num
			mustAnswer(t, fmt.Sprint(n, " replies, no server"), script(homeOp("a.x"), op, rest),
				coded(impl.AMalformed), plainly(1), ticked(0), seen(1, temp(0, "refused")))
			mustAnswer(t, fmt.Sprint(n, " replies, a server"), script(homeOp("a.x"), takeOp("a.x"), op, rest),
				coded(impl.AMalformed), plainly(1), ticked(0, "a.x", delivered("x@a.x")), coded(impl.AUnknown))
		}
	}
}

// The last of sixty replies is heard.
func TestTheLastOfManyReplies(t *testing.T) {
	dialogue := strings.Join(lines("220 hi", "250 hi", "250 ok", "250 ok", "354 go", "250 done", "221 bye"), "")
	for _, n := range []int{58, 59, 60} {
		var parts []string
		for _, b := range []byte(dialogue[:n-1]) {
			parts = append(parts, string(b))
		}
		ops := script(homeOp("a.x"), serverOp("a.x", append(parts, dialogue[n-1:])...), injectOp(me, "x@a.x"), tickOp(0), lookOp(1))
		mustAnswer(t, fmt.Sprint(n, " parts"), ops, ticked(0, "a.x", delivered("x@a.x")), coded(impl.AUnknown))
	}
}

func TestServersComeAndGo(t *testing.T) {
	ahead := script(homeOp("a.x"), injectOp(me, "x@a.x"))
	refused := seen(1, temp(0, "refused"))
	away := func(num int64) impl.Op {
		op := takeOp("a.x")
		op.Num = num
		return op
	}
	mustAnswer(t, "no server", script(ahead, tickOp(0), lookOp(1)), ticked(0), refused)
	for _, num := range []int64{-1, -2, math.MinInt64} {
		mustAnswer(t, "taken away", script(ahead, takeOp("a.x"), away(num), tickOp(0), lookOp(1)), coded(impl.AOk), ticked(0), refused)
		mustAnswer(t, "never there", script(ahead, away(num), tickOp(0), lookOp(1)), coded(impl.AOk), ticked(0), refused)
		back := script(ahead, takeOp("a.x"), away(num), takeOp("a.x"), tickOp(0), lookOp(1))
		mustAnswer(t, "there again", back, coded(impl.AOk), ticked(0, "a.x", delivered("x@a.x")), coded(impl.AUnknown))
		mustAnswer(t, "another is taken away", script(ahead, takeOp("a.x"), awayOp("b.x"), awayOp("x"), tickOp(0)), ticked(0, "a.x", delivered("x@a.x")))
	}
	for _, num := range []int64{0, 1, 7, math.MaxInt64} {
		mustAnswer(t, "put there", script(ahead, away(num), tickOp(0)), coded(impl.AOk), ticked(0, "a.x", delivered("x@a.x")))
	}
	mustAnswer(t, "put there twice", script(ahead, takeOp("a.x"), serverOp("a.x", "220 hi\r\n"), tickOp(0)), ticked(0, "a.x", said("EHLO out.example")))
	mustAnswer(t, "without replies", script(ahead, takeOp("a.x"), serverOp("a.x"), tickOp(0), lookOp(1)), ticked(0, "a.x", ""), seen(1, temp(0, "closed")))
}

func TestEveryTickOfASessionBeginsAnew(t *testing.T) {
	ops := script(homeOp("a.x"), speakOp("a.x", "450 later", "221 bye"), injectOp(me, "x@a.x"), tickOp(0), tickOp(60), tickOp(120), lookOp(1))
	d := denied("x@a.x")
	mustAnswer(t, "the same replies", ops, ticked(0, "a.x", d), ticked(60, "a.x", d), ticked(180, "a.x", d), seen(3, temp(450, "later")))
}

func TestTicks(t *testing.T) {
	for _, n := range []int64{-1, -2, math.MinInt64, 1000001, 1000002, math.MaxInt64, math.MaxInt64 - 5} {
		mustAnswer(t, fmt.Sprint("tick ", n), script(tickOp(5), tickOp(n), tickOp(0)), plainly(5), coded(impl.AMalformed), plainly(5))
	}
	for _, n := range []int64{0, 1, 999999, 1000000} {
		mustAnswer(t, fmt.Sprint("tick ", n), script(tickOp(5), tickOp(n), tickOp(0)), plainly(5), plainly(5+n), plainly(5+n))
	}
}

func TestTheClockEnds(t *testing.T) {
	ahead := slices.Repeat([]impl.Op{tickOp(1000000)}, 19)
	ahead = append(ahead, tickOp(999990))
	mustAnswer(t, "just to the end", script(ahead, tickOp(10), tickOp(0), tickOp(1), tickOp(0)), plainly(20000000), plainly(20000000), coded(impl.AMalformed), plainly(20000000))
	mustAnswer(t, "one beyond", script(ahead, tickOp(11), tickOp(9), tickOp(2), tickOp(1)), coded(impl.AMalformed), plainly(19999999), coded(impl.AMalformed), plainly(20000000))
	mustAnswer(t, "far beyond", script(ahead, tickOp(1000000), tickOp(0)), coded(impl.AMalformed), plainly(19999990))
	// A message that is born and tried at the clock's end is due behind it.
	last := script(ahead, tickOp(10), injectOp(me, "x@a.x"), tickOp(0), lookOp(1), tickOp(0), lookOp(1), compactOp(), lookOp(1))
	tried := seen(1, temp(0, "no answer"))
	mustAnswer(t, "at the end", last, plainly(1), plainly(20000000), tried, plainly(20000000), tried, plainly(4), tried)
}

// A wrong tick leaves alone what would be due.
func TestWrongTicksHandleNothing(t *testing.T) {
	for _, n := range []int64{-1, 1000001} {
		ops := script(homeOp("a.x"), takeOp("a.x"), injectOp(me, "x@a.x"), tickOp(n), lookOp(1), tickOp(0))
		mustAnswer(t, fmt.Sprint("tick ", n), ops, coded(impl.AMalformed), seen(0, impl.Verdict{}), ticked(0, "a.x", delivered("x@a.x")))
	}
}

func TestLooks(t *testing.T) {
	ahead := script(homeOp("a.x"), takeOp("a.x"), injectOp(me, "x@a.x"), injectOp(me, "y@b.x", "z@a.x", "z@c.x"), injectOp("", "x@c.x"))
	mustAnswer(t, "new messages", script(ahead, lookOp(1), lookOp(2), lookOp(3), lookOp(4)),
		seen(0, impl.Verdict{}), seen(0, make([]impl.Verdict, 3)...), seen(0, impl.Verdict{}), coded(impl.AUnknown))
	no := temp(0, "no answer")
	mustAnswer(t, "messages behind a tick", script(ahead, tickOp(0), lookOp(1), lookOp(2), lookOp(3)),
		coded(impl.AUnknown), seen(1, no, fine("done"), no), seen(1, no))
	for _, n := range []int64{0, -1, 4, 5, 1000000, 1<<32 + 2, 1<<32 + 3, math.MinInt64, math.MaxInt64, math.MinInt64 + 2} {
		mustAnswer(t, fmt.Sprint("look ", n), script(ahead, tickOp(0), lookOp(n)), coded(impl.AUnknown))
	}
	mustAnswer(t, "an empty queue", script(lookOp(1), lookOp(0)), coded(impl.AUnknown), coded(impl.AUnknown))
}

func TestBoxes(t *testing.T) {
	gone := zoneOp("a.x", impl.Zone{Kind: impl.ZGone})
	ahead := script(gone, injectOp(me, "a@a.x"), injectOp("you@x", "b@a.x"), injectOp(me, "c@a.x"), injectOp("", "d@a.x"))
	report := func(to, rcpt string) string {
		b := impl.Bounce{Helo: "out.example", To: to, Headers: "Subject: hi\r\n"}
		b.Failures = []impl.Failure{{Rcpt: rcpt, Status: "5.0.0", Code: 550, Text: "no such domain"}}
		return makeByHand(b)
	}
	none := plainly(0)
	mustAnswer(t, "nothing handled yet", script(ahead, boxOp(me), boxOp("you@x"), boxOp("")), none, none, none)
	mine := impl.Out{Num: 2, Texts: []string{report(me, "a@a.x"), report(me, "c@a.x")}}
	mustAnswer(t, "boxes", script(ahead, tickOp(0), boxOp(me), boxOp("you@x"), boxOp(me)),
		mine, impl.Out{Num: 1, Texts: []string{report("you@x", "b@a.x")}}, mine)
	for _, name := range []string{"", "nobody@x", "here.example", "me", "ME@here.example", me + " ", "a@a.x", "1", "\x00"} {
		mustAnswer(t, fmt.Sprintf("box %q", name), script(ahead, tickOp(0), boxOp(name)), none)
	}
	// The texts lie in the order in which they were put in, not in that of the numbers.
	late := script(injectOp(me, "a@a.x"), tickOp(0), gone, injectOp(me, "c@a.x"), tickOp(0), tickOp(60), boxOp(me))
	mustAnswer(t, "the second first", late, impl.Out{Num: 2, Texts: []string{report(me, "c@a.x"), report(me, "a@a.x")}})
}

func TestCompactions(t *testing.T) {
	mustAnswer(t, "nothing", script(compactOp(), compactOp(), injectOp(me, "x@a.x")), plainly(1), plainly(1), plainly(1))
	ahead := script(homeOp("a.x"), speakOp("a.x", "250 ok", "450 later", "354 go", "250 done"), injectOp(me, "x@a.x"), injectOp(me, "y@a.x", "z@a.x", "z@b.x"))
	mustAnswer(t, "new messages", script(ahead, compactOp(), lookOp(1), lookOp(2), lookOp(3)),
		plainly(3), seen(0, impl.Verdict{}), seen(0, make([]impl.Verdict, 3)...), coded(impl.AUnknown))
	left := seen(1, fine("done"), temp(450, "later"), temp(0, "no answer"))
	// A KMessage, three KVerdicts, a KTry, and the KNext.
	mustAnswer(t, "a tried message", script(ahead, injectOp(me, "x@b.x"), tickOp(0), compactOp(), lookOp(2), compactOp(), lookOp(2)),
		plainly(12), left, plainly(12), left)
	mustAnswer(t, "numbers go on", script(homeOp("a.x"), takeOp("a.x"), injectOp(me, "x@a.x"), injectOp(me, "x@a.x"), tickOp(0), compactOp(), lookOp(1), injectOp(me, "x@a.x"), lookOp(3)),
		plainly(1), coded(impl.AUnknown), plainly(3), seen(0, impl.Verdict{}))
}

// A compacted message is handled just as if there had been no compaction.
func TestCompactionsChangeNothing(t *testing.T) {
	ops := script(hostsOp("a.x", "h1.x", "h2.x"), speakOp("h1.x", "450 later", "550 no", ""), speakOp("h2.x", "451 hm", "250 ok", "354 go", "250 done"), homeOp("c.x"),
		injectOp(me, "x@a.x", "y@a.x", "z@b.x", "y@c.x"), injectOp("", "x@b.x"), tickOp(0), tickOp(60), takeOp("h1.x"), tickOp(120), tickOp(432000), boxOp(me), lookOp(1), lookOp(2))
	plainOuts := mustPlay(t, "without compactions", ops)
	for at := range ops {
		outs := mustPlay(t, fmt.Sprint("a compaction ahead of ", at), slices.Insert(slices.Clone(ops), at, compactOp(), compactOp()))
		if outs = slices.Delete(outs, at, at+2); !same(outs, plainOuts) {
			t.Fatalf("a compaction ahead of %d: %v, not %v", at, outs, plainOuts)
		}
	}
}

// Operations that take no step of the disk neither crash nor fail.
func TestOperationsWithoutSteps(t *testing.T) {
	full := slices.Repeat([]impl.Op{injectOp(me, "x@a.x")}, 30)
	for _, c := range []struct {
		ahead []impl.Op
		op    impl.Op
		code  int
	}{
		{nil, homeOp("a.x"), impl.AOk}, {nil, homeOp("-"), impl.AMalformed},
		{nil, takeOp("a.x"), impl.AOk}, {nil, awayOp("a.x"), impl.AOk}, {nil, takeOp("-"), impl.AMalformed},
		{nil, lookOp(1), impl.AUnknown}, {script(injectOp(me, "x@a.x")), lookOp(1), impl.AOk},
		{nil, boxOp(me), impl.AOk}, {nil, impl.Op{}, impl.AMalformed},
		{nil, tickOp(5), impl.AOk}, {nil, tickOp(-1), impl.AMalformed},
		{nil, injectOp("x", "x@a.x"), impl.AMalformed}, {full, injectOp(me, "x@a.x"), impl.AFull},
		{script(injectOp(me, "x@a.x"), tickOp(0)), tickOp(59), impl.AOk},
	} {
		for at := -1; at < 4; at++ {
			op := failing(crashing(c.op, at, 5), at)
			outs := mustPlay(t, "no step", script(c.ahead, op, lookOp(1)))
			if outs[len(c.ahead)].Code != c.code {
				t.Fatalf("%v with a crash at %d: %v", op, at, outs[len(c.ahead)])
			}
		}
	}
}
