package tests

import (
	"fmt"
	"math/rand"
	"slices"
	"strings"
	"testing"

	"loop.example/s01729/impl"
)

// roomy copies a list to the front of a longer one, so that what a call writes behind
// the list is seen, too.
func roomy[T any](list []T) []T {
	return append(make([]T, 0, len(list)+3), list...)
}

// whole is a list with the room behind it.
func whole[T any](list []T) []T {
	return list[:cap(list)]
}

func roomySession(s impl.Session) impl.Session {
	s.Rcpts, s.Taken, s.Verdicts = roomy(s.Rcpts), roomy(s.Taken), roomy(s.Verdicts)
	return s
}

// sameSession tells whether two sessions are the same value: a list without elements
// is nil.
func sameSession(a, b impl.Session) bool {
	if !slices.Equal(a.Rcpts, b.Rcpts) || !slices.Equal(a.Taken, b.Taken) || !slices.Equal(a.Verdicts, b.Verdicts) {
		return false
	}
	return a.Phase == b.Phase && a.Next == b.Next && a.Buf == b.Buf && a.Helo == b.Helo && a.From == b.From && a.Body == b.Body
}

func toldSession(s impl.Session) string {
	return fmt.Sprintf("phase %d, next %d, %d bytes %.40q wait, %q, %q, %.200q, taken %v, %.300q, body of %d",
		s.Phase, s.Next, len(s.Buf), s.Buf, s.Helo, s.From, s.Rcpts, s.Taken, fmt.Sprint(s.Verdicts), len(s.Body))
}

// scribble writes over all that a session's lists can reach.
func scribble(s impl.Session) {
	for i := range whole(s.Rcpts) {
		whole(s.Rcpts)[i] = "scribble"
	}
	for i := range whole(s.Taken) {
		whole(s.Taken)[i] = !whole(s.Taken)[i]
	}
	for i := range whole(s.Verdicts) {
		whole(s.Verdicts)[i] = impl.Verdict{Kind: 77}
	}
}

// done is the session that stands for one that cannot be held.
func done() impl.Session {
	return impl.Session{Phase: 9}
}

func mailByHand(helo, from string, rcpts []string, body string) bool {
	wrong := slices.ContainsFunc(rcpts, func(r string) bool { return !addressByHand(r) })
	return domainByHand(helo) && (from == "" || addressByHand(from)) && len(rcpts) > 0 && len(rcpts) < 21 && !wrong && bodyByHand(body)
}

func properByHand(s impl.Session) bool {
	n := len(s.Rcpts)
	if s.Phase <= 0 || s.Phase >= 10 || len(s.Taken) != n || len(s.Verdicts) != n || len(s.Buf) >= 40001 {
		return false
	}
	if s.Next < 0 || s.Next > n || s.Phase == 5 && s.Next == n {
		return false
	}
	for _, v := range s.Verdicts {
		if v.Kind < 0 || v.Kind >= 4 || v.Code != 0 && v.Code/100 < 2 || v.Code/100 > 5 || len(v.Text) > 512 {
			return false
		}
	}
	return mailByHand(s.Helo, s.From, s.Rcpts, s.Body)
}

func decideByHand(s *impl.Session, v impl.Verdict) {
	for i := range s.Verdicts {
		if s.Verdicts[i].Kind == 0 {
			s.Verdicts[i] = v
		}
	}
}

// feedByHand is the document's chapter 5.2, with replies that are read by replyByHand.
func feedByHand(s impl.Session, e impl.Event) (impl.Session, string) {
	if !properByHand(s) {
		return done(), ""
	}
	s = roomySession(s)
	if s.Phase == 9 {
		return s, ""
	}
	lost := map[int]string{1: "", 3: "timeout"}
	text, known := lost[e.Kind]
	if !known {
		text = "closed"
	}
	sent := ""
	for s.Buf += e.Data; text == "" && s.Phase != 9; {
		if len(s.Buf) > 40000 {
			text = "bad reply"
			break
		}
		reply, used, state := replyByHand(s.Buf)
		if state == impl.PMore {
			return s, sent
		}
		if state == impl.PBad {
			text = "bad reply"
			break
		}
		s.Buf = s.Buf[used:]
		sent += takeByHand(&s, reply)
	}
	if text != "" {
		decideByHand(&s, impl.Verdict{Kind: 2, Text: text})
	}
	s.Phase, s.Buf = 9, ""
	return s, sent
}

// takeByHand is the document's chapter 5.3: a phase and a code that are named there
// lead on, and all others lead to QUIT.
func takeByHand(s *impl.Session, r impl.Reply) string {
	refused := impl.Verdict{Kind: 2 + r.Code/500, Code: r.Code, Text: r.Lines[0]}
	if r.Code == 421 || s.Phase == 8 {
		if s.Phase != 8 {
			decideByHand(s, refused)
		}
		s.Phase = 9
		return ""
	}
	if s.Phase == 5 {
		return rcptByHand(s, r, refused)
	}
	switch fmt.Sprint(s.Phase, "/", r.Code) {
	case "1/220":
		s.Phase = 2
		return "EHLO " + s.Helo + "\r\n"
	case "2/250", "3/250":
		size, _ := sizeByHand(r.Lines)
		if s.Phase == 3 || size == 0 || size >= int64(len(s.Body)) {
			s.Phase = 4
			return "MAIL FROM:<" + s.From + ">\r\n"
		}
		refused = impl.Verdict{Kind: 3, Code: 552, Text: "size"}
	case "4/250":
		s.Phase, s.Next = 5, 0
		return "RCPT TO:<" + s.Rcpts[0] + ">\r\n"
	case "6/354":
		s.Phase = 7
		return stuffByHand(s.Body)
	case "7/250":
		refused.Kind = 1
	default:
		if s.Phase == 2 && r.Code >= 500 {
			s.Phase = 3
			return "HELO " + s.Helo + "\r\n"
		}
	}
	decideByHand(s, refused)
	s.Phase = 8
	return "QUIT\r\n"
}

func rcptByHand(s *impl.Session, r impl.Reply, refused impl.Verdict) string {
	if r.Code == 250 || r.Code == 251 {
		s.Taken[s.Next] = true
	} else {
		s.Verdicts[s.Next] = refused
	}
	if s.Next++; s.Next < len(s.Rcpts) {
		return "RCPT TO:<" + s.Rcpts[s.Next] + ">\r\n"
	}
	for _, taken := range s.Taken {
		if taken {
			s.Phase = 6
			return "DATA\r\n"
		}
	}
	s.Phase = 8
	return "QUIT\r\n"
}

// mustFeed feeds an event, holds the answer against the one that is wanted, and sees
// to it that the session that was handed in is as it was and shares nothing with it.
func mustFeed(t *testing.T, s impl.Session, e impl.Event, want impl.Session, sent string) impl.Session {
	t.Helper()
	given, kept := roomySession(s), roomySession(s)
	got, out := impl.Feed(given, e)
	if !sameSession(got, want) || out != sent {
		t.Fatalf("%s\nfed kind %d, %d bytes %.200q:\n%s, sent %.200q, not\n%s, sent %.200q",
			toldSession(s), e.Kind, len(e.Data), e.Data, toldSession(got), out, toldSession(want), sent)
	}
	answer := roomySession(got)
	scribble(got)
	for _, x := range []*impl.Session{&given, &kept} {
		x.Rcpts, x.Taken, x.Verdicts = whole(x.Rcpts), whole(x.Taken), whole(x.Verdicts)
	}
	if !sameSession(given, kept) {
		t.Fatalf("%s\nbecame\n%s when it was fed kind %d, %.200q", toldSession(kept), toldSession(given), e.Kind, e.Data)
	}
	return answer
}

func mustFeedByHand(t *testing.T, s impl.Session, e impl.Event) impl.Session {
	t.Helper()
	want, sent := feedByHand(s, e)
	return mustFeed(t, s, e, want, sent)
}

// heard is an event of bytes.
func heard(data string) impl.Event {
	return impl.Event{Kind: impl.EBytes, Data: data}
}

// addresses is n different addresses.
func addresses(n int) []string {
	var all []string
	for i := range n {
		all = append(all, fmt.Sprintf("r%d@d%d.example", i, i%3))
	}
	return all
}

// twoPoints is a body that stuffing makes longer.
const twoPoints = "hi\r\n.\r\n..x\r\n"

// opening is a session for n recipients that has begun.
func opening(n int) impl.Session {
	return impl.Open("me.example", "me@here.example", addresses(n), twoPoints)
}

// waiting is a session for n recipients in a phase, as replies make it that give it
// no reason to end: the first half of the recipients were taken, the others refused.
func waiting(n, phase int) impl.Session {
	s := opening(n)
	s.Phase = phase
	if phase == impl.PhRcpt {
		s.Next = n / 2
	}
	if phase > impl.PhRcpt {
		s.Next = n
	}
	for i := range s.Next {
		s.Taken[i] = i < (n+1)/2
		if !s.Taken[i] {
			s.Verdicts[i] = impl.Verdict{Kind: impl.VPerm, Code: 550, Text: "nobody here"}
		}
	}
	return s
}

// play feeds texts one by one, and answers the session and what was sent for each.
func play(t *testing.T, s impl.Session, texts ...string) (impl.Session, []string) {
	t.Helper()
	var sent []string
	for _, text := range texts {
		want, out := feedByHand(s, heard(text))
		s = mustFeed(t, s, heard(text), want, out)
		sent = append(sent, out)
	}
	return s, sent
}

// inParts cuts a text at random places; some of the parts are empty.
func inParts(r *rand.Rand, text string) []string {
	var parts []string
	for text != "" {
		n := r.Intn(min(len(text), 12) + 1)
		parts, text = append(parts, text[:n]), text[n:]
	}
	return parts
}

// randomReply is a reply of one or several lines that leans to codes that lead on.
func randomReply(r *rand.Rand, phase int) string {
	code := 200 + r.Intn(400)
	if hoped := []int{0, 220, 250, 250, 250, 250, 354, 250, 221, 250}[phase]; r.Intn(6) > 0 {
		code = hoped
	} else if r.Intn(2) == 0 {
		code = []int{220, 250, 251, 354, 421, 450, 499, 500, 550, 599}[r.Intn(10)]
	}
	var b strings.Builder
	for range r.Intn(3) {
		fmt.Fprintf(&b, "%d-%s\r\n", code, []string{"", "more", "SIZE 0", "SIZE 11", "size 12", "Size 13"}[r.Intn(6)])
	}
	fmt.Fprintf(&b, "%d%s\r\n", code, []string{"", " ", " ok", " SIZE 11", " SIZE 12", " 250 x"}[r.Intn(6)])
	return b.String()
}
