package tests

import (
	"fmt"
	"math"
	"math/rand"
	"slices"
	"strings"
	"testing"

	"loop.example/s01729/impl"
)

// anyEvents is events of each kind and of none, with data of all sorts.
func anyEvents() []impl.Event {
	var all []impl.Event
	for _, kind := range []int{math.MinInt, -1, 0, 1, 2, 3, 4, 9, math.MaxInt} {
		for _, data := range []string{"", "2", "220 x\r\n", "250 x\r\n", "354 x\r\n", "421 x\r\n", "550 x\r\n", "x\r\n", "\n", "250-x\r\n", "220 x\r\n250 x\r\n250 x\r\n", strings.Repeat("x", 40000), strings.Repeat("x", 40001)} {
			all = append(all, impl.Event{Kind: kind, Data: data})
		}
	}
	return all
}

func TestEveryEventInEveryPhase(t *testing.T) {
	for phase := 1; phase <= 9; phase++ {
		for n := 1; n <= 3; n++ {
			for _, buf := range []string{"", "25", "250 x\r\n25", "421-x\r\n", "x\r\n", strings.Repeat("9", 511), strings.Repeat("9", 40000)} {
				for _, e := range anyEvents() {
					s := waiting(n, phase)
					s.Buf = buf
					mustFeedByHand(t, s, e)
				}
			}
		}
	}
}

// What ends a session without a reply, and with what text.
func TestLostSessions(t *testing.T) {
	ways := map[string][]impl.Event{
		"timeout":   {{Kind: impl.ETime}, {Kind: impl.ETime, Data: "220 x\r\n"}},
		"closed":    {{Kind: impl.EClose}, {Kind: impl.EClose, Data: "220 x\r\n"}, {Kind: 0}, {Kind: -1}, {Kind: 4}, {Kind: math.MaxInt, Data: "220 x\r\n"}},
		"bad reply": {heard("x\r\n"), heard("\n"), heard("220 x\n"), heard("600 x\r\n"), heard("250-x\r\n251 x\r\n"), heard(strings.Repeat("x", 512)), heard(strings.Repeat("x", 40001)), heard(strings.Repeat("250-x\r\n", 50))},
	}
	for text, events := range ways {
		for _, e := range events {
			for phase := 1; phase <= 7; phase++ {
				s := waiting(4, phase)
				s.Verdicts[3] = impl.Verdict{Kind: impl.VOk, Code: 299, Text: "ahead"}
				want := s
				want.Verdicts = slices.Clone(s.Verdicts)
				for i, v := range want.Verdicts {
					if v.Kind == impl.VNone {
						want.Verdicts[i] = temp(0, text)
					}
				}
				want.Phase = impl.PhDone
				mustFeed(t, s, e, want, "")
				if e.Kind != impl.EBytes {
					s.Buf = "250 waits\r\n2"
					mustFeed(t, s, e, want, "")
				}
			}
		}
	}
}

// A bad reply behind good ones ends the session when they are taken, and what they
// made it send is sent.
func TestBadReplyBehindGoodOnes(t *testing.T) {
	for _, bad := range []string{"x\r\n", "25\r\n", "\r\n", "250x\r\n", "\n", "199 x\r\n250 good\r\n", strings.Repeat("y", 512)} {
		want := opening(2)
		want.Phase, want.Verdicts = impl.PhDone, []impl.Verdict{temp(0, "bad reply"), temp(0, "bad reply")}
		mustFeed(t, opening(2), heard(bad), want, "")
		mustFeed(t, opening(2), heard(bad+"220 good\r\n"), want, "")
		mustFeed(t, opening(2), heard("220 good\r\n"+bad), want, "EHLO me.example\r\n")
		mustFeed(t, opening(2), heard("220 good\r\n250 good\r\n"+bad), want, "EHLO me.example\r\nMAIL FROM:<me@here.example>\r\n")
		want.Next, want.Taken, want.Verdicts[0] = 1, []bool{false, false}, perm(550, "no")
		mustFeed(t, opening(2), heard("220 a\r\n250 b\r\n250 c\r\n550 no\r\n"+bad), want,
			"EHLO me.example\r\nMAIL FROM:<me@here.example>\r\nRCPT TO:<r0@d0.example>\r\nRCPT TO:<r1@d1.example>\r\n")
	}
}

// longReply is a reply of n bytes, n being a multiple of 512.
func longReply(code, n int) string {
	lines := strings.Repeat(fmt.Sprintf("%d-%s\r\n", code, strings.Repeat("x", 506)), n/512)
	at := len(lines) - 512 + 3
	return lines[:at] + " " + lines[at+1:]
}

// As many bytes as may wait are read, however they are shared out; one more is too
// much, though there be whole replies in them.
func TestBytesThatMayWait(t *testing.T) {
	full := longReply(220, 25600) + longReply(250, 14336) + strings.Repeat("2", 64)
	if len(full) != 40000 {
		t.Fatalf("the test's text has %d bytes", len(full))
	}
	for _, cut := range []int{0, 1, 511, 25599, 25600, 25601, 39999, 40000} {
		s := opening(2)
		s.Buf = full[:cut]
		want := opening(2)
		want.Phase, want.Buf = impl.PhMail, strings.Repeat("2", 64)
		mustFeed(t, s, heard(full[cut:]), want, "EHLO me.example\r\nMAIL FROM:<me@here.example>\r\n")
		want.Phase, want.Buf, want.Verdicts = impl.PhDone, "", []impl.Verdict{temp(0, "bad reply"), temp(0, "bad reply")}
		mustFeed(t, s, heard(full[cut:]+"2"), want, "")
		mustFeed(t, s, heard(full[cut:]+full), want, "")
	}
	ended := opening(1)
	ended.Buf, ended.Phase = full, impl.PhDone
	mustFeed(t, ended, heard("x"), ended, "")
}

// What waits behind the reply that ends the session is thrown away and not taken.
func TestNothingIsLeftBehindTheEnd(t *testing.T) {
	for _, behind := range []string{"", "2", "250 x\r\n", "bad\r\n", "\n", strings.Repeat("x", 600)} {
		for phase := 1; phase <= 7; phase++ {
			s := mustFeedByHand(t, waiting(2, phase), heard("421 bye\r\n"+behind))
			if s.Phase != impl.PhDone || s.Buf != "" || s.Verdicts[0] != temp(421, "bye") {
				t.Fatalf("phase %d, %q behind: %s", phase, behind, toldSession(s))
			}
		}
		for _, code := range []int{221, 250, 421, 500} {
			s := waiting(2, impl.PhQuit)
			s.Verdicts[0] = fine("got it")
			want := roomySession(s)
			want.Phase = impl.PhDone
			mustFeed(t, s, heard(fmt.Sprintf("%d bye\r\n%s", code, behind)), want, "")
		}
	}
}

// In PhQuit whatever is said ends the session and decides nobody.
func TestAnyReplyToQuit(t *testing.T) {
	for _, code := range everyCode() {
		s := waiting(3, impl.PhQuit)
		want := waiting(3, impl.PhDone)
		mustFeed(t, s, heard(fmt.Sprintf("%d x\r\n", code)), want, "")
	}
}

// mustStayAsItIs feeds a session that has ended all that there is.
func mustStayAsItIs(t *testing.T, s impl.Session) {
	t.Helper()
	for _, e := range anyEvents() {
		mustFeed(t, s, e, s, "")
	}
}

func TestNothingChangesWhatHasEnded(t *testing.T) {
	for _, buf := range []string{"", "2", "220 x\r\n", "421 x\r\n", strings.Repeat("x", 40000)} {
		s := waiting(3, impl.PhDone)
		s.Buf = buf
		mustStayAsItIs(t, s)
		s.Verdicts = []impl.Verdict{fine("a"), temp(0, "b"), perm(599, "c")}
		s.Next = 1
		mustStayAsItIs(t, s)
	}
	mustStayAsItIs(t, impl.Open("no domain", "", addresses(1), ""))
}

// randomEvent is mostly a reply, or a part of one, and now and then something that
// ends the session.
func randomEvent(r *rand.Rand, phase int) impl.Event {
	switch r.Intn(20) {
	case 0:
		return impl.Event{Kind: r.Intn(6) - 1, Data: randomReply(r, phase)}
	case 1:
		return heard(randomText(r, 8))
	case 2:
		return heard(randomReply(r, phase) + randomReply(r, phase))
	case 3:
		reply := randomReply(r, phase)
		return heard(reply[:r.Intn(len(reply))])
	}
	return heard(randomReply(r, phase))
}

func TestEveryEndedSessionHasVerdicts(t *testing.T) {
	r := rand.New(rand.NewSource(10))
	kinds := map[int]int{}
	for range 3000 {
		n := 1 + r.Intn(5)
		if r.Intn(50) == 0 {
			n = 20
		}
		s := opening(n)
		for s.Phase != impl.PhDone {
			s = mustFeedByHand(t, s, randomEvent(r, s.Phase))
			if !impl.Proper(s) {
				t.Fatalf("%s is not proper", toldSession(s))
			}
		}
		for _, v := range s.Verdicts {
			kinds[v.Kind]++
		}
		if len(s.Verdicts) != n || s.Buf != "" {
			t.Fatalf("%s", toldSession(s))
		}
		for range 3 {
			mustFeed(t, s, randomEvent(r, r.Intn(9)+1), s, "")
		}
	}
	if kinds[impl.VNone] != 0 || kinds[impl.VOk] < 100 || kinds[impl.VTemp] < 100 || kinds[impl.VPerm] < 100 || len(kinds) != 3 {
		t.Fatalf("verdicts by their kinds: %v", kinds)
	}
}

// Sessions that no dialogue made, in any phase, with any verdicts and any recipients
// taken, go by the same words.
func TestSessionsMadeByHand(t *testing.T) {
	r := rand.New(rand.NewSource(11))
	for range 20000 {
		n := 1 + r.Intn(4)
		s := opening(n)
		s.Phase, s.Next = 1+r.Intn(9), r.Intn(n+1)
		for i := range n {
			s.Taken[i] = r.Intn(2) == 0
			s.Verdicts[i] = impl.Verdict{Kind: r.Intn(4), Code: []int{0, 200, 421, 599}[r.Intn(4)], Text: randomText(r, 3)}
		}
		if r.Intn(3) == 0 {
			s.Buf = randomReply(r, s.Phase)[:3]
		}
		mustFeedByHand(t, s, randomEvent(r, s.Phase))
	}
}
