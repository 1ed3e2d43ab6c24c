package tests

import (
	"fmt"
	"math/rand"
	"slices"
	"strings"
	"testing"

	"loop.example/s01729/impl"
)

// everyCode is each code that a reply may have.
func everyCode() []int {
	var all []int
	for code := 200; code < 600; code++ {
		all = append(all, code)
	}
	return all
}

func TestWholeDialogue(t *testing.T) {
	_, sent := play(t, opening(3), "220 hi\r\n", "250 hi\r\n", "250 ok\r\n", "250 ok\r\n", "251 ok\r\n", "250 ok\r\n", "354 go\r\n", "250 ok\r\n", "221 bye\r\n", "250 ok\r\n")
	want := []string{
		"EHLO me.example\r\n", "MAIL FROM:<me@here.example>\r\n",
		"RCPT TO:<r0@d0.example>\r\n", "RCPT TO:<r1@d1.example>\r\n", "RCPT TO:<r2@d2.example>\r\n",
		"DATA\r\n", "hi\r\n..\r\n...x\r\n.\r\n", "QUIT\r\n", "", "",
	}
	if !slices.Equal(sent, want) {
		t.Fatalf("sent %q, not %q", sent, want)
	}
}

func TestDialogueWithHelo(t *testing.T) {
	for _, code := range []int{500, 502, 550, 599} {
		_, sent := play(t, impl.Open("me.x", "", []string{"a@b"}, ""), "220 hi\r\n", fmt.Sprintf("%d what\r\n", code), "250-hi\r\n250 SIZE 0\r\n", "250 ok\r\n", "250 ok\r\n", "354 go\r\n", "250 ok\r\n", "500 what\r\n")
		want := []string{"EHLO me.x\r\n", "HELO me.x\r\n", "MAIL FROM:<>\r\n", "RCPT TO:<a@b>\r\n", "DATA\r\n", ".\r\n", "QUIT\r\n", ""}
		if !slices.Equal(sent, want) {
			t.Fatalf("behind %d: sent %q, not %q", code, sent, want)
		}
	}
}

// A server without EHLO has no size limit, whatever its reply to HELO looks like.
func TestSizeCountsOnlyBehindEhlo(t *testing.T) {
	s, sent := play(t, waiting(1, impl.PhHelo), "250-hi\r\n250 SIZE 1\r\n")
	if s.Phase != impl.PhMail || sent[0] != "MAIL FROM:<me@here.example>\r\n" {
		t.Fatalf("%s, sent %q", toldSession(s), sent)
	}
}

// The codes that lead on, phase by phase, and no others: where they lead and what is
// sent, in numbers and texts of the document.
func TestEveryCodeInEveryPhase(t *testing.T) {
	next := map[string]string{
		"1 220": "2 EHLO me.example\r\n",
		"2 250": "4 MAIL FROM:<me@here.example>\r\n",
		"3 250": "4 MAIL FROM:<me@here.example>\r\n",
		"4 250": "5 RCPT TO:<r0@d0.example>\r\n",
		"5 250": "5 RCPT TO:<r2@d2.example>\r\n",
		"5 251": "5 RCPT TO:<r2@d2.example>\r\n",
		"6 354": "7 hi\r\n..\r\n...x\r\n.\r\n",
		"7 250": "8 QUIT\r\n",
	}
	for phase := 1; phase <= 8; phase++ {
		for _, code := range everyCode() {
			want, named := next[fmt.Sprint(phase, " ", code)]
			switch {
			case phase == 8 || code == 421:
				want = "9 "
			case named:
			case phase == 2 && code >= 500:
				want = "3 HELO me.example\r\n"
			case phase == 5:
				want = "5 RCPT TO:<r2@d2.example>\r\n"
			default:
				want = "8 QUIT\r\n"
			}
			s, out := impl.Feed(waiting(3, phase), heard(fmt.Sprintf("%d text\r\n", code)))
			if got := fmt.Sprint(s.Phase, " ", out); got != want {
				t.Fatalf("phase %d, code %d: then %q, not %q", phase, code, got, want)
			}
		}
	}
}

// Behind the last recipient: DATA if any is taken, whoever it is, else QUIT.
func TestBehindTheLastRecipient(t *testing.T) {
	for n := 1; n <= 6; n++ {
		for taken := range 1 << n {
			s := opening(n)
			texts := []string{"220 x\r\n", "250 x\r\n", "250 x\r\n"}
			for i := range n {
				texts = append(texts, []string{"550 no\r\n", "250 ok\r\n", "450 no\r\n", "251 ok\r\n"}[i%2*2+taken>>i&1])
			}
			s, sent := play(t, s, texts...)
			phase, last := impl.PhData, "DATA\r\n"
			if taken == 0 {
				phase, last = impl.PhQuit, "QUIT\r\n"
			}
			if s.Phase != phase || s.Next != n || sent[len(sent)-1] != last {
				t.Fatalf("%d recipients, taken %b: %s, sent %q", n, taken, toldSession(s), sent)
			}
		}
	}
}

func TestSizeLimitOfTheServer(t *testing.T) {
	big := bodyOf(3000)
	for _, x := range []struct {
		body, lines string
		quits       bool
	}{
		{twoPoints, "250 hi\r\n", false},
		{twoPoints, "250-hi\r\n250 SIZE 0\r\n", false},
		{twoPoints, "250-hi\r\n250 SIZE 1\r\n", true},
		{twoPoints, "250-hi\r\n250 SIZE 11\r\n", true},
		{twoPoints, "250-hi\r\n250 SIZE 12\r\n", false},
		{twoPoints, "250-hi\r\n250 SIZE 13\r\n", false},
		{twoPoints, "250-hi\r\n250-size 0\r\n250 SIZE 1\r\n", false},
		{twoPoints, "250-hi\r\n250-Size 1\r\n250 SIZE 0\r\n", true},
		{twoPoints, "250-SIZE 1\r\n250 hi\r\n", false},
		{twoPoints, "250 SIZE 1\r\n", false},
		{twoPoints, "250-hi\r\n250 SIZE\r\n", false},
		{twoPoints, "250-hi\r\n250 SIZE 4294967296\r\n", false},
		{twoPoints, "250-hi\r\n250 SIZE 9999999999\r\n", false},
		{"", "250-hi\r\n250 SIZE 0\r\n", false},
		{"", "250-hi\r\n250 SIZE 1\r\n", false},
		{big, "250-hi\r\n250 SIZE 2999\r\n", true},
		{big, "250-hi\r\n250 SIZE 3000\r\n", false},
		{big, "250-hi\r\n250 SIZE 3001\r\n", false},
		{big, "250-hi\r\n250 SIZE 0\r\n", false},
	} {
		s := impl.Open("me.x", "a@b", addresses(2), x.body)
		s, sent := play(t, s, "220 hi\r\n", x.lines)
		phase, out, v := impl.PhMail, "MAIL FROM:<a@b>\r\n", impl.Verdict{}
		if x.quits {
			phase, out, v = impl.PhQuit, "QUIT\r\n", impl.Verdict{Kind: impl.VPerm, Code: 552, Text: "size"}
		}
		if s.Phase != phase || sent[1] != out || s.Verdicts[0] != v || s.Verdicts[1] != v {
			t.Fatalf("%q with a body of %d: %s, sent %q", x.lines, len(x.body), toldSession(s), sent)
		}
	}
}

// inOrder takes away from sent what may be said, in the order of the promise, and
// answers what is left.
func inOrder(s impl.Session, sent string) string {
	cut := func(line string) bool {
		rest, found := strings.CutPrefix(sent, line)
		sent = rest
		return found
	}
	quit := func() string { cut("QUIT\r\n"); return sent }
	if !cut("EHLO " + s.Helo + "\r\n") {
		return quit()
	}
	cut("HELO " + s.Helo + "\r\n")
	if !cut("MAIL FROM:<" + s.From + ">\r\n") {
		return quit()
	}
	for _, rcpt := range s.Rcpts {
		if !cut("RCPT TO:<" + rcpt + ">\r\n") {
			return quit()
		}
	}
	if cut("DATA\r\n") {
		cut(stuffByHand(s.Body))
	}
	return quit()
}

// A server that says anything, one reply an event: each reply is answered by one
// command at most, and all of them together are in order.
func TestCommandsComeInOrder(t *testing.T) {
	r := rand.New(rand.NewSource(7))
	ends := map[int]int{}
	for range 6000 {
		first := opening(1 + r.Intn(4))
		s, all := first, ""
		for range 1 + r.Intn(14) {
			before := s.Phase
			reply := randomReply(r, s.Phase)
			got, out := impl.Feed(s, heard(reply))
			want, sent := feedByHand(s, heard(reply))
			if !sameSession(got, want) || out != sent {
				t.Fatalf("%s\nheard %q: %s, sent %q", toldSession(s), reply, toldSession(got), out)
			}
			if out != "" && (before >= impl.PhQuit || !strings.HasSuffix(out, "\r\n") || before != impl.PhData && strings.Count(out, "\r\n") != 1) {
				t.Fatalf("phase %d, %q is answered with %q", before, reply, out)
			}
			s, all = got, all+out
		}
		if left := inOrder(first, all); left != "" {
			t.Fatalf("sent %q: out of order is %q", all, left)
		}
		ends[s.Phase]++
	}
	if ends[impl.PhDone] < 1000 || len(ends) < 6 {
		t.Fatalf("the replies lead to too few places: %v", ends)
	}
}

// A stream of replies, cut anywhere or all at once, comes to the same as reply by
// reply.
func TestRepliesInPartsAndTogether(t *testing.T) {
	r := rand.New(rand.NewSource(8))
	for range 500 {
		first := opening(1 + r.Intn(3))
		byReply, stream, said := first, "", ""
		for range 1 + r.Intn(12) {
			reply := randomReply(r, byReply.Phase)
			next, out := impl.Feed(byReply, heard(reply))
			byReply, stream, said = next, stream+reply, said+out
		}
		cuts := [][]string{{stream}, strings.Split(stream, ""), inParts(r, stream), inParts(r, stream), strings.SplitAfter(stream, "\r"), strings.SplitAfter(stream, "\n")}
		for _, parts := range cuts {
			s, out := play(t, first, parts...)
			if !sameSession(s, byReply) || strings.Join(out, "") != said {
				t.Fatalf("%.300q in %d parts: %s, sent %.300q, not %s, sent %.300q", stream, len(parts), toldSession(s), out, toldSession(byReply), said)
			}
		}
	}
}

// Nothing is sent, and nothing is decided, by bytes that are no whole reply.
func TestPartsOfAReplySendNothing(t *testing.T) {
	for phase := 1; phase <= 8; phase++ {
		for _, reply := range []string{"250 text\r\n", "250-a\r\n250-b\r\n250 c\r\n", "421 text\r\n", "250\r\n"} {
			for cut := range len(reply) {
				s := waiting(2, phase)
				want := waiting(2, phase)
				want.Buf = reply[:cut]
				s = mustFeed(t, s, heard(reply[:cut]), want, "")
				s = mustFeed(t, s, heard(""), want, "")
				mustFeedByHand(t, s, heard(reply[cut:]))
			}
		}
	}
}

// The replies may wait in Buf already, and come to be taken by no more bytes.
func TestRepliesThatWait(t *testing.T) {
	s := opening(2)
	s.Buf = "220 a\r\n250 b\r\n250 c\r\n250 d\r\n45"
	s = mustFeedByHand(t, s, heard(""))
	if s.Phase != impl.PhRcpt || s.Next != 1 || s.Buf != "45" || !s.Taken[0] {
		t.Fatalf("%s", toldSession(s))
	}
}

// A next that counts nothing yet is set to the first recipient by the reply to MAIL.
func TestMailBeginsWithTheFirst(t *testing.T) {
	for next := range 4 {
		s := waiting(3, impl.PhMail)
		s.Next = next
		s, sent := play(t, s, "250 ok\r\n")
		if s.Next != 0 || s.Phase != impl.PhRcpt || sent[0] != "RCPT TO:<r0@d0.example>\r\n" {
			t.Fatalf("next %d: %s, sent %q", next, toldSession(s), sent)
		}
	}
}
