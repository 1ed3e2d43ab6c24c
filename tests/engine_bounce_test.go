package tests

import (
	"fmt"
	"math"
	"math/rand"
	"slices"
	"strings"
	"testing"

	"loop.example/s01729/impl"
)

// goneZone makes all of a domain's recipients fail at once.
func goneZone(domain string) impl.Op {
	return zoneOp(domain, impl.Zone{Kind: impl.ZGone})
}

// boxed is the answer of a box with one bounce of the plain body.
func boxed(failures ...impl.Failure) impl.Out {
	b := impl.Bounce{Helo: "out.example", To: me, Failures: failures, Headers: "Subject: hi\r\n"}
	return impl.Out{Num: 1, Texts: []string{makeByHand(b)}}
}

func TestABounceNamesThoseThatFailed(t *testing.T) {
	rcpts := []string{"1@a.x", "2@b.x", "3@a.x", "4@c.x", "5@a.x", "6@b.x"}
	ahead := script(homeOp("a.x"), goneZone("b.x"), zoneOp("c.x", okZone(impl.MX{Host: "."})), speakOp("a.x", "250 ok", "550 no\xff\x01", "250 ok", "354 go", "250 done"), injectOp(me, rcpts...))
	mustFail(t, "some failed", ahead, []string{"a.x", delivered("1@a.x", "3@a.x", "5@a.x")},
		failed("2@b.x", 550, "no such domain"), failed("3@a.x", 550, "no??"), failed("4@c.x", 556, "null exchanger"), failed("6@b.x", 550, "no such domain"))
	mustFail(t, "none failed", script(homeOp("a.x"), takeOp("a.x"), injectOp(me, "1@a.x")), []string{"a.x", delivered("1@a.x")})
	long := strings.Repeat("long ", 100)
	mustFail(t, "a long text", script(homeOp("a.x"), speakOp("a.x", "599 "+long), injectOp(me, "1@a.x")), []string{"a.x", denied("1@a.x")}, failed("1@a.x", 599, long[:200]))
}

func TestNoBounceAheadOfTheEnd(t *testing.T) {
	ahead := script(goneZone("a.x"), injectOp(me, "1@a.x", "2@b.x"), tickOp(0), boxOp(me), lookOp(1))
	mustAnswer(t, "one is pending", ahead, plainly(0), seen(1, perm(550, "no such domain"), temp(0, "no answer")))
	both := boxed(failed("1@a.x", 550, "no such domain"), failed("2@b.x", 550, "no such domain"))
	mustAnswer(t, "none is pending", script(ahead, goneZone("b.x"), tickOp(60), boxOp(me), lookOp(1)), both, coded(impl.AUnknown))
	one := boxed(failed("1@a.x", 550, "no such domain"))
	mustAnswer(t, "the other is delivered", script(ahead, homeOp("b.x"), takeOp("b.x"), tickOp(60), boxOp(me), lookOp(1)), one, coded(impl.AUnknown))
}

func TestHeadersOfBounces(t *testing.T) {
	for _, c := range []struct{ body, headers string }{
		{"", ""}, {"\r\n", ""}, {"\r\nx\r\n", ""}, {"A: b\r\n", "A: b\r\n"}, {"A: b\r\nC: d\r\n\r\n--b0\r\n", "A: b\r\nC: d\r\n"}, {"--b0\r\n--b1\r\n", "--b0\r\n--b1\r\n"},
	} {
		op := injectOp(me, "x@a.x")
		op.Body = c.body
		b := impl.Bounce{Helo: "out.example", To: me, Headers: c.headers, Failures: []impl.Failure{failed("x@a.x", 550, "no such domain")}}
		mustAnswer(t, fmt.Sprintf("body %q", c.body), script(goneZone("a.x"), op, tickOp(0), boxOp(me)), impl.Out{Num: 1, Texts: []string{makeByHand(b)}})
	}
}

// Without sender there is no bounce, and no step for one.
func TestNoBounceWithoutSender(t *testing.T) {
	ahead := script(goneZone("a.x"), injectOp("", "x@a.x"))
	mustAnswer(t, "without sender", script(ahead, tickOp(0), lookOp(1), boxOp("")), ticked(0), coded(impl.AUnknown), plainly(0))
	if n := stepsOf(ahead, tickOp(0)); n != 4 {
		t.Fatalf("without sender: %d steps", n)
	}
	late := script(injectOp("", "x@a.x"), tickOp(432000), lookOp(1), boxOp(""))
	mustAnswer(t, "without sender, expired", late, plainly(432000), coded(impl.AUnknown), plainly(0))
}

// Each step of a tick that bounces a message: the verdict, its sync, the bounce, the
// KBounce, its sync, the KDrop, its sync.
func TestABounceThatCrashes(t *testing.T) {
	ahead := script(goneZone("a.x"), injectOp(me, "x@a.x"))
	if n := stepsOf(ahead, tickOp(0)); n != 7 {
		t.Fatalf("a bounce has %d steps", n)
	}
	fresh, bad := seen(0, impl.Verdict{}), seen(0, perm(550, "no such domain"))
	no, yes := plainly(0), boxed(failed("x@a.x", 550, "no such domain"))
	gone := coded(impl.AUnknown)
	for _, c := range []struct {
		at, keep int
		look     impl.Out // the message behind the crash
		box      impl.Out
		records  int64 // of a compaction then
		left     int   // steps of the next tick
	}{
		{1, math.MaxInt, fresh, no, 2, 7}, {2, 0, fresh, no, 2, 7}, {2, math.MaxInt, bad, no, 3, 5},
		{3, math.MaxInt, bad, no, 3, 5}, {4, math.MaxInt, bad, yes, 3, 5}, {5, 0, bad, yes, 3, 5}, {5, 10, bad, yes, 3, 5}, {5, 11, bad, yes, 4, 2},
		{6, math.MaxInt, bad, yes, 4, 2}, {7, 0, bad, yes, 4, 2}, {7, 10, bad, yes, 4, 2}, {7, 11, gone, yes, 1, 0},
	} {
		what := fmt.Sprintf("a crash at %d that keeps %d", c.at, c.keep)
		crashed := script(ahead, crashing(tickOp(0), c.at, c.keep))
		mustAnswer(t, what, script(crashed, lookOp(1), boxOp(me), compactOp(), lookOp(1), boxOp(me), tickOp(0), lookOp(1), boxOp(me)),
			coded(impl.ACrash), c.look, c.box, plainly(c.records), c.look, c.box, ticked(0), gone, yes)
		if n := stepsOf(crashed, tickOp(0)); n != c.left {
			t.Fatalf("%s: the next tick has %d steps, not %d", what, n, c.left)
		}
	}
	mustAnswer(t, "no crash", script(ahead, crashing(tickOp(0), 8, 0), lookOp(1), boxOp(me)), ticked(0), gone, yes)
}

func TestABounceWhoseSyncFails(t *testing.T) {
	ahead := script(goneZone("a.x"), injectOp(me, "x@a.x"))
	fresh, bad := seen(0, impl.Verdict{}), seen(0, perm(550, "no such domain"))
	no, yes := plainly(0), boxed(failed("x@a.x", 550, "no such domain"))
	gone := coded(impl.AUnknown)
	for _, c := range []struct {
		at      int
		look    impl.Out
		box     impl.Out
		records int64
		left    int
	}{
		{0, gone, yes, 1, 0}, {1, fresh, no, 2, 7}, {2, bad, yes, 3, 5}, {3, bad, yes, 4, 2}, {4, gone, yes, 1, 0}, {-1, gone, yes, 1, 0},
	} {
		what := fmt.Sprint("the sync ", c.at)
		fails := script(ahead, failing(tickOp(0), c.at))
		mustAnswer(t, what, script(fails, lookOp(1), boxOp(me), compactOp(), tickOp(0), lookOp(1), boxOp(me)),
			ticked(0), c.look, c.box, plainly(c.records), ticked(0), gone, yes)
		if n := stepsOf(fails, tickOp(0)); n != c.left {
			t.Fatalf("%s: the next tick has %d steps, not %d", what, n, c.left)
		}
	}
}

// However often the bounce's step comes, the text stays the first one, and alone.
func TestOneBounceThroughManyCrashes(t *testing.T) {
	ahead := script(goneZone("a.x"), injectOp(me, "x@a.x"), injectOp(me, "y@a.x"), crashing(tickOp(0), 4, 0))
	ops := slices.Clone(ahead)
	for range 5 {
		ops = append(ops, crashing(tickOp(0), 2, 0), failing(tickOp(0), 1), crashing(tickOp(0), 3, 0))
	}
	outs := mustPlay(t, "many crashes", script(ops, tickOp(0), boxOp(me), lookOp(1), lookOp(2)))
	box := outs[len(outs)-3]
	if box.Num != 2 || box.Texts[0] != boxed(failed("x@a.x", 550, "no such domain")).Texts[0] || box.Texts[1] != boxed(failed("y@a.x", 550, "no such domain")).Texts[0] {
		t.Fatalf("many crashes: %v", box)
	}
	if outs[len(outs)-2].Code != impl.AUnknown || outs[len(outs)-1].Code != impl.AUnknown {
		t.Fatalf("many crashes: %v", outs)
	}
}

// A bounce to one sender does not keep another message of the same sender, or one with
// the same text, from its own.
func TestABounceForEachMessage(t *testing.T) {
	op := injectOp(me, "x@a.x")
	text := boxed(failed("x@a.x", 550, "no such domain")).Texts[0]
	for n := range 4 {
		ops := script(goneZone("a.x"), slices.Repeat([]impl.Op{op}, n), tickOp(0), op, tickOp(0), boxOp(me))
		mustAnswer(t, fmt.Sprint(n, " messages and one"), ops, impl.Out{Num: int64(n + 1), Texts: slices.Repeat([]string{text}, n+1)})
	}
}

// The promise as it stands, whatever the model says. What becomes of a recipient
// hangs on its domain alone: ok.x takes it, gone.x does not, and wait.x never answers.
func TestBouncesThroughRandomCrashes(t *testing.T) {
	r := rand.New(rand.NewSource(84))
	bounces := 0
	for range 150 {
		ops := script(homeOp("ok.x"), takeOp("ok.x"), goneZone("gone.x"))
		for range 30 {
			op := randomOp(r)
			switch op.Kind {
			case impl.OInject:
				op.Body = mark(len(ops))
				op.Rcpts = nil
				for i, d := range r.Perm(3)[:1+r.Intn(3)] {
					op.Rcpts = append(op.Rcpts, fmt.Sprintf("%d.%d@%s", len(ops), i, []string{"ok.x", "gone.x", "wait.x"}[d]))
				}
			case impl.OTick, impl.OCompact:
			default:
				continue
			}
			if r.Intn(2) == 0 {
				op.CrashAt, op.Keep = r.Intn(9), pick(r, -1, 0, r.Intn(60), 100000)
			}
			if r.Intn(3) == 0 {
				op.FailAt = r.Intn(5)
			}
			ops = append(ops, op)
		}
		ops = append(ops, tickOp(446400), boxOp(me), boxOp("you@here.example"), boxOp(""))
		outs := mustPlay(t, "bounces", ops)
		if none := outs[len(outs)-1]; !same(none, plainly(0)) {
			t.Fatalf("a bounce to nobody: %v", none)
		}
		bounces += mustBounceRight(t, ops, outs[len(outs)-3:])
	}
	if bounces < 200 {
		t.Fatalf("only %d bounces", bounces)
	}
}

// mustBounceRight holds all bounces against the messages that they are about, and
// answers their number.
func mustBounceRight(t *testing.T, ops []impl.Op, boxes []impl.Out) int {
	t.Helper()
	told := map[string]bool{}
	for _, box := range boxes {
		for _, text := range box.Texts {
			b, ok := readReportByHand(text)
			if !ok || told[b.Headers] {
				t.Fatalf("a bounce is wrong or there twice: %q, in%s", text, toldOps(ops))
			}
			told[b.Headers] = true
			op := ops[numberByHand(strings.TrimSpace(strings.TrimPrefix(b.Headers, "Message: ")))]
			var want, got []string
			for _, rcpt := range op.Rcpts {
				if !strings.HasSuffix(rcpt, "@ok.x") {
					want = append(want, rcpt)
				}
			}
			for _, f := range b.Failures {
				// The first tick may have come too late for a try.
				if f != (impl.Failure{Rcpt: f.Rcpt, Status: "4.4.7"}) || !strings.HasSuffix(f.Rcpt, "@ok.x") {
					got = append(got, f.Rcpt)
				}
			}
			if b.To != op.Name || !slices.Equal(got, want) {
				t.Fatalf("the bounce of %+v is %+v, in%s", op, b, toldOps(ops))
			}
		}
	}
	return len(told)
}
