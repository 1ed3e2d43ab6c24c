package tests

import (
	"fmt"
	"math/rand"
	"slices"
	"strings"
	"testing"

	"loop.example/s01729/impl"
)

func verdictsAre(t *testing.T, what string, s impl.Session, want ...impl.Verdict) {
	t.Helper()
	if !slices.Equal(s.Verdicts, want) {
		t.Fatalf("%s: verdicts %v, not %v", what, s.Verdicts, want)
	}
}

func temp(code int, text string) impl.Verdict {
	return impl.Verdict{Kind: impl.VTemp, Code: code, Text: text}
}

func perm(code int, text string) impl.Verdict {
	return impl.Verdict{Kind: impl.VPerm, Code: code, Text: text}
}

func fine(text string) impl.Verdict {
	return impl.Verdict{Kind: impl.VOk, Code: 250, Text: text}
}

func TestSomeTakenSomeRefused(t *testing.T) {
	s, _ := play(t, opening(5), "220 a\r\n", "250 b\r\n", "250 c\r\n",
		"250 d\r\n", "550 no such\r\n", "251 e\r\n", "450 later\r\n", "252 who knows\r\n", "354 f\r\n")
	verdictsAre(t, "ahead of the end", s, impl.Verdict{}, perm(550, "no such"), impl.Verdict{}, temp(450, "later"), temp(252, "who knows"))
	if !slices.Equal(s.Taken, []bool{true, false, true, false, false}) || s.Next != 5 || s.Phase != impl.PhDot {
		t.Fatalf("%s", toldSession(s))
	}
	for reply, want := range map[string]impl.Verdict{
		"250 got it\r\n":           fine("got it"),
		"250-one\r\n250 two\r\n":   fine("one"),
		"250\r\n":                  fine(""),
		"251 got it\r\n":           temp(251, "got it"),
		"249 got it\r\n":           temp(249, "got it"),
		"354 got it\r\n":           temp(354, "got it"),
		"499 no\r\n":               temp(499, "no"),
		"500 no\r\n":               perm(500, "no"),
		"554-no\r\n554 not it\r\n": perm(554, "no"),
		"421 closing\r\n":          temp(421, "closing"),
	} {
		end, sent := play(t, s, reply)
		verdictsAre(t, reply, end, want, perm(550, "no such"), want, temp(450, "later"), temp(252, "who knows"))
		if quit := want.Code != 421; quit != (sent[0] == "QUIT\r\n") || quit != (end.Phase == impl.PhQuit) {
			t.Fatalf("%q: %s, sent %q", reply, toldSession(end), sent)
		}
	}
}

// Every code that does not lead on, in every phase, gives the undecided its verdict
// and nobody else.
func TestVerdictOfEveryCode(t *testing.T) {
	leads := map[string]bool{"1 220": true, "2 250": true, "3 250": true, "4 250": true, "5 250": true, "5 251": true, "6 354": true}
	for phase := 1; phase <= 8; phase++ {
		for _, code := range everyCode() {
			s := waiting(3, phase)
			s.Verdicts[2] = impl.Verdict{Kind: 1 + code%3, Code: 299, Text: "ahead"}
			s, _ = impl.Feed(s, heard(fmt.Sprintf("%d-the text\r\n%d other\r\n", code, code)))
			want := temp(code, "the text")
			if code >= 500 {
				want = perm(code, "the text")
			}
			if phase == 7 && code == 250 {
				want = fine("the text")
			}
			if leads[fmt.Sprint(phase, " ", code)] || phase == 8 || phase == 2 && code >= 500 {
				want = impl.Verdict{}
			}
			first := want
			if phase == 5 && code != 421 {
				first = impl.Verdict{}
			}
			verdictsAre(t, fmt.Sprint("phase ", phase, ", code ", code), s, first, want, impl.Verdict{Kind: 1 + code%3, Code: 299, Text: "ahead"})
		}
	}
}

// The recipient Next gets the verdict of the reply to its RCPT, also one whom a reply
// has decided ahead.
func TestRcptDecidesTheNext(t *testing.T) {
	for kind := range 4 {
		for _, code := range []int{249, 250, 251, 252, 354, 420, 422, 499, 500, 550, 599} {
			s := waiting(3, impl.PhRcpt)
			ahead := impl.Verdict{Kind: kind, Code: 299, Text: "ahead"}
			s.Verdicts[1] = ahead
			s = mustFeedByHand(t, s, heard(fmt.Sprintf("%d text\r\n", code)))
			want := ahead
			switch {
			case code >= 500:
				want = perm(code, "text")
			case code != 250 && code != 251:
				want = temp(code, "text")
			}
			verdictsAre(t, fmt.Sprint("code ", code), s, impl.Verdict{}, want, impl.Verdict{})
			if s.Taken[1] != (code == 250 || code == 251) || s.Next != 2 || !s.Taken[0] || s.Taken[2] {
				t.Fatalf("code %d: %s", code, toldSession(s))
			}
		}
	}
}

func TestLongTextsOfReplies(t *testing.T) {
	long := strings.Repeat("x", 506)
	s, _ := play(t, waiting(2, impl.PhDot), "250 "+long+"\r\n")
	verdictsAre(t, "the longest text", s, fine(long), perm(550, "nobody here"))
	if !impl.Proper(s) {
		t.Fatal("a session with the longest text is not proper")
	}
	odd := "\x00\xff\t ~"
	s, _ = play(t, waiting(1, impl.PhGreet), "554 "+odd+"\r\n")
	verdictsAre(t, "any bytes", s, perm(554, odd))
}

// server is one that holds the commands it gets against the promise, and answers each
// with a reply of its own.
type server struct {
	r        *rand.Rand
	lines    string          // what has come and is not answered
	data     bool            // it waits for the body
	accepted map[string]bool // whose RCPT was answered with 250 or 251
	gotBody  bool            // the body's end was answered with 250, behind exactly the body
	body     string
}

// answer is the reply to what stands at the front of the lines.
func (v *server) answer() string {
	code := []int{220, 250, 250, 250, 251, 354, 450, 550}[v.r.Intn(8)]
	end := "\r\n"
	if v.data {
		end = "\r\n.\r\n"
	}
	command, rest, _ := strings.Cut(v.lines, end)
	hoped := map[string]int{"EHLO": 250, "HELO": 250, "MAIL": 250, "DATA": 354, "QUIT": 221}
	if !v.data && len(command) >= 4 && v.r.Intn(8) > 0 {
		if h := hoped[command[:4]]; h != 0 {
			code = h
		}
	}
	switch {
	case v.data:
		v.data = false
		v.gotBody = code == 250 && command+end == v.body
	case strings.HasPrefix(command, "RCPT TO:<") && (code == 250 || code == 251):
		v.accepted[command[9:len(command)-1]] = true
	case command == "DATA" && code == 354:
		v.data = true
	}
	v.lines = rest
	return fmt.Sprintf("%d text\r\n", code)
}

// Against servers that answer as they like: the promise as it stands, and its other
// side, that whoever was taken with the body has VOk.
func TestOnlyTheDeliveredAreOk(t *testing.T) {
	r := rand.New(rand.NewSource(9))
	delivered := 0
	for range 4000 {
		body := []string{twoPoints, "a line\r\nanother\r\n"}[r.Intn(2)]
		s := impl.Open("me.example", "", addresses(1+r.Intn(5)), body)
		v := &server{r: r, accepted: map[string]bool{}, body: stuffByHand(body)}
		reply := []string{"220 hi\r\n", "220 hi\r\n", "220 hi\r\n", "554 no\r\n"}[r.Intn(4)]
		for s.Phase != impl.PhDone {
			next, out := impl.Feed(s, heard(reply))
			s, v.lines = next, v.lines+out
			if v.lines == "" {
				break
			}
			reply = v.answer()
		}
		for i, rcpt := range s.Rcpts {
			if ok := v.gotBody && v.accepted[rcpt]; ok != (s.Verdicts[i].Kind == impl.VOk) {
				t.Fatalf("%s: accepted %v, the body %t", toldSession(s), v.accepted, v.gotBody)
			}
			if s.Verdicts[i].Kind == impl.VOk {
				delivered++
			}
		}
	}
	if delivered < 500 {
		t.Fatalf("only %d were delivered", delivered)
	}
}

// Before the body's end is answered with 250, nobody is delivered to, however the
// session ends.
func TestNobodyIsOkAheadOfTheEnd(t *testing.T) {
	replies := []string{"220 a\r\n", "250 b\r\n", "250 c\r\n", "250 d\r\n", "251 e\r\n", "354 f\r\n"}
	for n := range len(replies) + 1 {
		s, _ := play(t, opening(2), replies[:n]...)
		for _, e := range []impl.Event{{Kind: impl.EClose}, {Kind: impl.ETime}, heard("bad\r\n"), heard("421 x\r\n"), {Kind: 0, Data: "250 x\r\n"}, {Kind: impl.EClose, Data: "250 x\r\n"}, {Kind: impl.ETime, Data: "250 x\r\n"}} {
			end := mustFeedByHand(t, s, e)
			if end.Phase != impl.PhDone || end.Verdicts[0].Kind != impl.VTemp || end.Verdicts[1].Kind != impl.VTemp {
				t.Fatalf("behind %d replies, event %v: %s", n, e, toldSession(end))
			}
		}
	}
}
