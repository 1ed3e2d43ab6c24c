package tests

import (
	"math"
	"slices"
	"strings"
	"testing"

	"loop.example/s01729/impl"
)

func TestClientNumbers(t *testing.T) {
	got := []int{
		impl.PhGreet, impl.PhEhlo, impl.PhHelo, impl.PhMail, impl.PhRcpt, impl.PhData, impl.PhDot, impl.PhQuit, impl.PhDone,
		impl.VNone, impl.VOk, impl.VTemp, impl.VPerm, impl.VExpired, impl.EBytes, impl.EClose, impl.ETime, impl.MaxRcpt, impl.MaxBuf,
	}
	if want := []int{1, 2, 3, 4, 5, 6, 7, 8, 9, 0, 1, 2, 3, 4, 1, 2, 3, 20, 40000}; !slices.Equal(got, want) {
		t.Fatalf("phases, verdicts, events and limits are %v, not %v", got, want)
	}
}

// mustOpen holds Open's answer against the document, and sees to it that the
// recipients are as they were and that the session has its own.
func mustOpen(t *testing.T, helo, from string, rcpts []string, body string, right bool) {
	t.Helper()
	want := done()
	if right {
		n := len(rcpts)
		want = impl.Session{Phase: 1, Helo: helo, From: from, Body: body, Rcpts: rcpts, Taken: make([]bool, n), Verdicts: make([]impl.Verdict, n)}
	}
	given, kept := roomy(rcpts), roomy(rcpts)
	got := impl.Open(helo, from, given, body)
	if !sameSession(got, want) {
		t.Fatalf("Open(%.120q, %.200q, %d recipients, body of %d bytes): %s, not %s", helo, from, len(rcpts), len(body), toldSession(got), toldSession(want))
	}
	if impl.Proper(got) != right {
		t.Fatalf("Open(%.120q, %.200q, %d recipients, body of %d bytes): proper is %t", helo, from, len(rcpts), len(body), !right)
	}
	scribble(got)
	if !slices.Equal(whole(given), whole(kept)) {
		t.Fatalf("Open shares its recipients: %.300q became %.300q", whole(kept), whole(given))
	}
}

func TestOpenWithEachName(t *testing.T) {
	two := addresses(2)
	for _, helo := range []string{"x", "me.example", domainOf(100), "", ".", "-x", "me..x", "Me.x", "a@b", "me.x\r\n", domainOf(101)} {
		mustOpen(t, helo, "a@b", two, "hi\r\n", domainByHand(helo))
	}
	long := strings.Repeat("l", 59) + "@"
	for _, from := range []string{"", "a@b", long + domainOf(100), "a", "@", "a@", "@b", " ", "<>", "a@b@c", "a@b\r\n", long + "l@" + domainOf(100), "l" + long + domainOf(100)} {
		mustOpen(t, "me.x", from, two, "hi\r\n", from == "" || addressByHand(from))
	}
	for _, body := range []string{"", "\r\n", ".\r\n", twoPoints, bodyOf(3000), "x", "x\n", "x\r", "\x00\r\n", bodyOf(3001), strings.Repeat("x", 998) + "\r\n", strings.Repeat("x", 999) + "\r\n"} {
		mustOpen(t, "me.x", "a@b", two, body, bodyByHand(body))
	}
}

func TestOpenWithEachNumberOfRecipients(t *testing.T) {
	mustOpen(t, "me.x", "a@b", nil, "hi\r\n", false)
	mustOpen(t, "me.x", "a@b", []string{}, "hi\r\n", false)
	for n := range 45 {
		mustOpen(t, "me.x", "", addresses(n), "", 1 <= n && n <= 20)
	}
	mustOpen(t, "me.x", "", []string{"c@d", "c@d", "c@d"}, "", true)
}

func TestOpenWithOneWrongRecipient(t *testing.T) {
	for _, wrong := range []string{"", "a", "@b", "a@", "a@b@c", "A@b", "a@b ", "a..b@c"} {
		for _, n := range []int{1, 2, 3, 20} {
			for at := range n {
				rcpts := addresses(n)
				rcpts[at] = wrong
				mustOpen(t, "me.x", "a@b", rcpts, "hi\r\n", false)
			}
		}
	}
}

// broken is a session with one thing changed, and whether it is proper all the same.
type broken struct {
	what   string
	change func(s *impl.Session)
	proper bool
}

func brokenSessions() []broken {
	all := []broken{{"nothing", func(*impl.Session) {}, true}}
	add := func(what string, proper bool, change func(s *impl.Session)) {
		all = append(all, broken{what, change, proper})
	}
	add("helo empty", false, func(s *impl.Session) { s.Helo = "" })
	add("helo of 100", true, func(s *impl.Session) { s.Helo = domainOf(100) })
	add("helo of 101", false, func(s *impl.Session) { s.Helo = domainOf(101) })
	add("from empty", true, func(s *impl.Session) { s.From = "" })
	add("from wrong", false, func(s *impl.Session) { s.From = "a@b@c" })
	add("body empty", true, func(s *impl.Session) { s.Body = "" })
	add("body of 3000", true, func(s *impl.Session) { s.Body = bodyOf(3000) })
	add("body of 3001", false, func(s *impl.Session) { s.Body = bodyOf(3001) })
	add("body wrong", false, func(s *impl.Session) { s.Body = "hi" })
	add("first recipient wrong", false, func(s *impl.Session) { s.Rcpts[0] = "x" })
	add("last recipient wrong", false, func(s *impl.Session) { s.Rcpts[len(s.Rcpts)-1] = "" })
	add("buf of 40000", true, func(s *impl.Session) { s.Buf = strings.Repeat("x", 40000) })
	add("buf of 40001", false, func(s *impl.Session) { s.Buf = strings.Repeat("x", 40001) })
	add("taken shorter", false, func(s *impl.Session) { s.Taken = s.Taken[1:] })
	add("taken longer", false, func(s *impl.Session) { s.Taken = append(s.Taken, true) })
	add("taken empty", false, func(s *impl.Session) { s.Taken = nil })
	add("all taken", true, func(s *impl.Session) { s.Taken = slices.Repeat([]bool{true}, len(s.Rcpts)) })
	add("verdicts shorter", false, func(s *impl.Session) { s.Verdicts = s.Verdicts[1:] })
	add("verdicts longer", false, func(s *impl.Session) { s.Verdicts = append(s.Verdicts, impl.Verdict{}) })
	add("verdicts empty", false, func(s *impl.Session) { s.Verdicts = nil })
	add("recipients fewer", false, func(s *impl.Session) { s.Rcpts = s.Rcpts[1:] })
	add("recipients more", false, func(s *impl.Session) { s.Rcpts = append(s.Rcpts, "a@b") })
	return all
}

// brokenVerdicts is each verdict at an edge, alone on the first and on the last
// recipient.
func brokenVerdicts() []broken {
	var all []broken
	for v, proper := range map[impl.Verdict]bool{
		{Kind: -1}: false, {Kind: 0}: true, {Kind: 1}: true, {Kind: 2}: true, {Kind: 3}: true, {Kind: 4}: false, {Kind: 5}: false,
		{Kind: math.MinInt}: false, {Kind: math.MaxInt}: false,
		{Code: -200}: false, {Code: -1}: false, {Code: 1}: false, {Code: 199}: false, {Code: 200}: true, {Code: 201}: true,
		{Code: 421}: true, {Code: 598}: true, {Code: 599}: true, {Code: 600}: false, {Code: math.MinInt}: false, {Code: math.MaxInt}: false,
		{Text: "\r\n\x00\xff"}: true, {Text: strings.Repeat("t", 512)}: true, {Text: strings.Repeat("t", 513)}: false,
		{Kind: 3, Code: 599, Text: strings.Repeat("t", 512)}: true,
	} {
		all = append(all, broken{"a first verdict", func(s *impl.Session) { s.Verdicts[0] = v }, proper})
		all = append(all, broken{"a last verdict", func(s *impl.Session) { s.Verdicts[len(s.Verdicts)-1] = v }, proper})
	}
	return all
}

// mustProper holds Proper against the document, and Feed of what is not proper.
func mustProper(t *testing.T, what string, s impl.Session, want bool) {
	t.Helper()
	if given := roomySession(s); impl.Proper(given) != want || !sameSession(given, s) {
		t.Fatalf("%s, %s: proper is %t", what, toldSession(s), !want)
	}
	if properByHand(s) != want {
		t.Fatalf("%s, %s: the test's own reading is %t", what, toldSession(s), !want)
	}
	if want {
		return
	}
	for _, kind := range []int{impl.EBytes, impl.EClose, impl.ETime, 0} {
		for _, data := range []string{"", "220 x\r\n", "421 x\r\n", "bad\r\n"} {
			mustFeed(t, s, impl.Event{Kind: kind, Data: data}, done(), "")
		}
	}
}

func TestProperWithOneThingBroken(t *testing.T) {
	for _, n := range []int{1, 2, 20} {
		for phase := 1; phase <= 9; phase++ {
			for _, b := range append(brokenSessions(), brokenVerdicts()...) {
				s := waiting(n, phase)
				b.change(&s)
				mustProper(t, b.what, s, b.proper && len(s.Rcpts) <= 20)
			}
		}
	}
}

func TestProperPhases(t *testing.T) {
	s := opening(2)
	for _, phase := range []int{math.MinInt, -9, -1, 0, 10, 11, math.MaxInt} {
		s.Phase = phase
		mustProper(t, "phase", s, false)
	}
	for phase := 1; phase <= 9; phase++ {
		s.Phase = phase
		mustProper(t, "phase", s, true)
	}
}

func TestProperNext(t *testing.T) {
	for _, n := range []int{1, 2, 20} {
		for phase := 1; phase <= 9; phase++ {
			for _, next := range []int{math.MinInt, -1, 0, n - 1, n, n + 1, math.MaxInt} {
				s := opening(n)
				s.Phase, s.Next = phase, next
				mustProper(t, "next", s, next >= 0 && (next < n || next == n && phase != impl.PhRcpt))
			}
		}
	}
}

func TestProperWithoutOrWithTooManyRecipients(t *testing.T) {
	for phase := 1; phase <= 9; phase++ {
		for _, n := range []int{0, 21} {
			mustProper(t, "recipients", impl.Session{
				Phase: phase, Helo: "me.x", Rcpts: addresses(n), Taken: make([]bool, n), Verdicts: make([]impl.Verdict, n),
			}, false)
		}
		mustProper(t, "phase alone", impl.Session{Phase: phase}, false)
	}
	mustProper(t, "nothing", impl.Session{}, false)
}
