package tests

import (
	"fmt"
	"math"
	"math/rand"
	"strconv"
	"strings"
	"testing"

	"loop.example/s01729/impl"
)

func mustHeaders(t *testing.T, body, want string) {
	t.Helper()
	if got := impl.Headers(body); got != want {
		t.Fatalf("Headers of %d bytes %.80q: %.80q, not %.80q", len(body), body, got, want)
	}
}

func TestHeadersOfBodies(t *testing.T) {
	for _, x := range [][2]string{
		{"", ""}, {"\r\n", ""}, {"\r\n\r\n", ""}, {"\r\nA: b\r\n", ""}, {"A: b\r\n", "A: b\r\n"}, {"A: b\r\n\r\n", "A: b\r\n"},
		{"A: b\r\n\r\nx\r\n", "A: b\r\n"}, {"A: b\r\nC: d\r\n\r\nx\r\n\r\ny\r\n", "A: b\r\nC: d\r\n"}, {"A: b\r\nC: d\r\nE: f\r\n", "A: b\r\nC: d\r\nE: f\r\n"},
		{" \r\n\r\nx\r\n", " \r\n"}, {"\t\r\nx\r\n", "\t\r\nx\r\n"}, {".\r\n\r\n", ".\r\n"}, {"\xff\r\n\r\n\xfe\r\n", "\xff\r\n"},
		{"A", ""}, {"A: b\r\nC", ""}, {"A: b\r\n\r\nx", ""}, {"A: b\n\nx\r\n", ""}, {"A: b\r\n\n\r\n", ""}, {"A: b\r\n\r\n\x00\r\n", ""}, {"\x00\r\n", ""},
		{bodyOf(3000), bodyOf(3000)}, {bodyOf(3001), ""}, {bodyOf(2998) + "\r\n", bodyOf(2998)}, {bodyOf(2999) + "\r\n", ""},
		{"a\r\n\r\n" + strings.Repeat("x", 998) + "\r\n", "a\r\n"}, {"a\r\n\r\n" + strings.Repeat("x", 999) + "\r\n", ""},
	} {
		mustHeaders(t, x[0], x[1])
	}
	for _, body := range append(textsOver([]string{"a", "\r", "\n", "\r\n", "b: c\r\n"}, 6), changedAnywhere("a\r\n\r\nb\r\n")...) {
		mustHeaders(t, body, headersByHand(body))
	}
}

func mustClean(t *testing.T, text, want string) {
	t.Helper()
	if got := impl.Clean(text); got != want {
		t.Fatalf("Clean of %d bytes %.300q: %.300q, not %.300q", len(text), text, got, want)
	}
	if again := impl.Clean(want); again != want {
		t.Fatalf("Clean of the clean %.300q: %.300q", want, again)
	}
}

func TestCleanOfEachByte(t *testing.T) {
	for b := range 256 {
		want := "?"
		if b >= 32 && b <= 126 {
			want = string([]byte{byte(b)})
		}
		text := string([]byte{byte(b)})
		mustClean(t, text, want)
		mustClean(t, "a"+text+"b"+text, "a"+want+"b"+want)
	}
	mustClean(t, "\x1f ~\x7f\x80", "? ~??")
	mustClean(t, "héllo\r\n", "h??llo??")
	mustClean(t, allBytes(), cleanByHand(allBytes()))
}

func TestCleanOfEachLength(t *testing.T) {
	for n := range 420 {
		mustClean(t, strings.Repeat("x", n), strings.Repeat("x", min(n, 200)))
		mustClean(t, strings.Repeat("é", n), strings.Repeat("?", min(2*n, 200)))
	}
	mustClean(t, strings.Repeat("x", 199)+"\n\n", strings.Repeat("x", 199)+"?")
	mustClean(t, strings.Repeat("x", 199)+"é", strings.Repeat("x", 199)+"?")
	mustClean(t, strings.Repeat("x", 200)+"\n", strings.Repeat("x", 200))
	if impl.MaxText != 200 {
		t.Fatalf("MaxText is %d", impl.MaxText)
	}
}

func TestBouncesAreReadBack(t *testing.T) {
	for n := 1; n <= 20; n++ {
		mustMake(t, fmt.Sprint(n, " failures"), bounce(n), reportByHand(bounce(n), "b0"))
	}
	r := rand.New(rand.NewSource(61))
	for range 1500 {
		mustMakeByHand(t, "a random bounce", randomBounce(r))
	}
}

// mustJudge makes a bounce that is right but for what is said, and holds the program
// and the patterns against what the document says of it.
func mustJudge(t *testing.T, what string, right bool, change func(b *impl.Bounce)) {
	t.Helper()
	b := bounce(3)
	change(&b)
	if bounceByHand(b) != right {
		t.Fatalf("%s: the test's own judgement is %t", what, !right)
	}
	mustMakeByHand(t, what, b)
	// A text in the form of a bounce that is not right is none.
	mustReadByHand(t, what, reportByHand(b, boundaryByHand(b.Headers)))
}

func TestBounceNames(t *testing.T) {
	for _, s := range []string{"x", domainOf(100), domainOf(101), "", "-x", "a..b", "X", "a@b", "x\r\n", "x ", "x>", "é"} {
		right := s == "x" || s == domainOf(100)
		mustJudge(t, fmt.Sprintf("helo %q", s), right, func(b *impl.Bounce) { b.Helo = s })
	}
	long := strings.Repeat("l", 59) + "@" + domainOf(100)
	for _, s := range []string{"a@b", long, "l" + long, "", "a", "@", "a@", "@b", "a@b@c", "A@b", "<a@b>", "a@b>", "a@b\r\n", "a@b ", " a@b", "a@b>\r\nCc: <c@d"} {
		right := s == "a@b" || s == long
		mustJudge(t, fmt.Sprintf("to %q", s), right, func(b *impl.Bounce) { b.To = s })
		for i := range 3 {
			mustJudge(t, fmt.Sprintf("recipient %d %q", i, s), right, func(b *impl.Bounce) { b.Failures[i].Rcpt = s })
		}
	}
}

func TestBounceNumberOfFailures(t *testing.T) {
	for n := range 45 {
		mustJudge(t, fmt.Sprint(n, " failures"), n >= 1 && n <= 20, func(b *impl.Bounce) { b.Failures = bounce(n).Failures })
	}
	mustJudge(t, "an empty failure at the end", false, func(b *impl.Bounce) { b.Failures = append(b.Failures, impl.Failure{}) })
	mustJudge(t, "one failure twice", true, func(b *impl.Bounce) { b.Failures = append(b.Failures, b.Failures[0]) })
}

func TestBounceStatuses(t *testing.T) {
	places := []string{"", "0", "7", "000", "12", "999", "0000", "1234", "x", "-1", "+1", " 1", "1 ", "1.", "٣"}
	for _, ahead := range []string{"", "0", "3", "4", "5", "6", "45", "55", "05", " 5", "x"} {
		for _, middle := range places {
			for _, end := range places {
				status := ahead + "." + middle + "." + end
				right := strings.Contains(" 4 5 ", " "+ahead+" ") && ahead != "" && fewDigits(middle) && fewDigits(end)
				mustJudge(t, fmt.Sprintf("status %q", status), right, func(b *impl.Bounce) { b.Failures[1].Status = status })
			}
		}
	}
	for _, status := range []string{"", ".", "..", "5", "5.", "5.1", "500", "5.00", "5.1.1.1", "5..1", "5,1,1", "5.1,1", "5.1 1", "5.1.1\r\n", "\n5.1.1", "5.1.1\r\nX: y", "5.1.1.", ".5.1.1"} {
		mustJudge(t, fmt.Sprintf("status %q", status), false, func(b *impl.Bounce) { b.Failures[0].Status = status })
		mustJudge(t, fmt.Sprintf("last status %q", status), false, func(b *impl.Bounce) { b.Failures[2].Status = status })
	}
	for _, status := range changedAnywhere("5.12.3") {
		mustJudge(t, fmt.Sprintf("status %q", status), statusPattern.MatchString(status), func(b *impl.Bounce) { b.Failures[2].Status = status })
	}
}

// fewDigits tells whether a text is one to three digits.
func fewDigits(s string) bool {
	n, err := strconv.Atoi("1" + s)
	return err == nil && n >= 10 && n < 2000
}

func TestBounceCodes(t *testing.T) {
	for _, code := range []int{0, 1, -1, 99, 100, 199, 200, 201, 250, 499, 500, 599, 600, 601, 999, 1000, -200, -550, 5500, 65536 + 550, math.MinInt, math.MaxInt, 1 << 32} {
		for i := range 3 {
			right := code == 0 || code >= 200 && code <= 599
			mustJudge(t, fmt.Sprint("code ", code), right, func(b *impl.Bounce) { b.Failures[i].Code = code })
		}
	}
}

func TestBounceTexts(t *testing.T) {
	for b := range 256 {
		text := string([]byte{'a', byte(b), 'c'})
		for i := range 3 {
			mustJudge(t, fmt.Sprintf("text %q", text), b >= 32 && b <= 126, func(b *impl.Bounce) { b.Failures[i].Text = text })
		}
	}
	for n := 190; n < 210; n++ {
		mustJudge(t, fmt.Sprint("text of ", n), n <= 200, func(b *impl.Bounce) { b.Failures[1].Text = strings.Repeat("t", n) })
	}
	for _, text := range []string{"", " ", "  ", " a", "a ", "  a  b  ", "550", "0 ", "550 550", ":", "\"", "--b0", "--b0--", "Final-Recipient: rfc822; a@b", strings.Repeat(" ", 200)} {
		mustJudge(t, fmt.Sprintf("text %q", text), true, func(b *impl.Bounce) { b.Failures[0].Text = text })
	}
	for _, text := range []string{"a\r\n", "\r\n", "a\r\n\r\n--b0", "é", "a\nb", "\x00", "\r\n\r\nFinal-Recipient: rfc822; c@d\r\nAction: failed\r\nStatus: 5.0.0\r\nDiagnostic-Code: smtp; 550 x"} {
		mustJudge(t, fmt.Sprintf("text %q", text), false, func(b *impl.Bounce) { b.Failures[0].Text = text })
	}
}

func TestBounceHeaders(t *testing.T) {
	for _, headers := range []string{"", "a\r\n", "a\r\nb\r\n", " \r\n", ".\r\n", "\xff\x01\r\n", "--\r\n", "--b0--\r\n", "From: <>\r\n", strings.Repeat("x", 998) + "\r\n", bodyOf(2999), bodyOf(3000), strings.Repeat("a\r\n", 1000)} {
		mustJudge(t, fmt.Sprintf("headers %.80q", headers), true, func(b *impl.Bounce) { b.Headers = headers })
	}
	for _, headers := range []string{
		"\r\n", "\r\n\r\n", "a\r\n\r\n", "\r\na\r\n", "a\r\n\r\nb\r\n", "a", "\n", "\r", "a\n", "a\r", "a\r\nb", "a\r\n\n", "\x00\r\n", "a\rb\r\n", "a\nb\r\n",
		strings.Repeat("x", 999) + "\r\n", bodyOf(3001), bodyOf(3002), bodyOf(2998) + "\r\n", strings.Repeat("a\r\n", 1001), strings.Repeat("x", 9000),
	} {
		mustJudge(t, fmt.Sprintf("headers %.80q", headers), false, func(b *impl.Bounce) { b.Headers = headers })
	}
}

// mustBound asks for the boundary of a bounce with these lines as its headers.
func mustBound(t *testing.T, boundary string, lines ...string) {
	t.Helper()
	b := bounce(2)
	if len(lines) > 0 {
		b.Headers = strings.Join(lines, "\r\n") + "\r\n"
	} else {
		b.Headers = ""
	}
	mustMake(t, fmt.Sprintf("lines %.80q", lines), b, reportByHand(b, boundary))
	for _, other := range []string{"b0", "b1", "b2", "b9", "b10", "b11", "b100", "b", "B0", "b00", "b01", "c0", "", "b-1", "b0 "} {
		if other != boundary {
			mustRead(t, "with boundary "+other, reportByHand(b, other), impl.Bounce{}, false)
		}
	}
}

// marks is the lines that take the first n boundaries.
func marks(n int) []string {
	var lines []string
	for i := range n {
		lines = append(lines, fmt.Sprint("--b", i))
	}
	return lines
}

func TestBoundaryIsTheLeast(t *testing.T) {
	mustBound(t, "b0")
	for _, line := range []string{"x", "-", "--", "--b", "-b0", "---b0", " --b0", "x--b0", "--B0", "b0", "--b-0", "--b 0", "--b1", "--b10", "--b9", "--x"} {
		mustBound(t, "b0", line)
		mustBound(t, "b0", "X: y", line, "Z: --b0")
	}
	for _, line := range []string{"--b0", "--b0--", "--b00", "--b01", "--b0 x", "--b0b1", "--b0\xff"} {
		mustBound(t, "b1", line)
		mustBound(t, "b1", "X: y", line, "--b2", "Z")
		mustBound(t, "b1", "X: y", line, line)
		mustBound(t, "b2", "--b1", line)
		mustBound(t, "b2", line, "--b19")
	}
	for n := range 25 {
		mustBound(t, fmt.Sprint("b", n), marks(n)...)
	}
	mustBound(t, "b10", append(marks(10), "--b11", "--b1", "--b")...)
	mustBound(t, "b11", append(marks(10), "--b10")...)
	mustBound(t, "b11", append([]string{"--b10", "--b0"}, marks(10)[2:]...)...)
	mustBound(t, "b9", append(marks(9), "--b10", "--b")...)
	mustBound(t, "b100", marks(100)...)
	mustBound(t, "b388", marks(388)...)
}

func TestReportsWithOtherBoundaries(t *testing.T) {
	text := reportByHand(bounce(1), "b0")
	mustRead(t, "the right one", text, bounce(1), true)
	parts := strings.Split(text, "b0")
	if len(parts) != 5 {
		t.Fatalf("%d boundaries in %q", len(parts)-1, text)
	}
	for i := 1; i < len(parts); i++ {
		for _, other := range []string{"b1", "", "b", "b00", "B0", "b0--", "b0b0"} {
			mustRead(t, fmt.Sprint("boundary ", i, " is ", other), strings.Join(parts[:i], "b0")+other+strings.Join(parts[i:], "b0"), impl.Bounce{}, false)
		}
	}
	b := bounce(1)
	b.Headers = "--b0\r\n"
	mustRead(t, "a boundary that is a line", reportByHand(b, "b0"), impl.Bounce{}, false)
}

func TestReportsThatAreCut(t *testing.T) {
	for _, b := range []impl.Bounce{bounce(1), bounce(3), {Helo: "x", To: "a@b", Failures: bounce(1).Failures, Headers: "--b0\r\n--b0--\r\n--b1--\r\n"}} {
		text := makeByHand(b)
		for i := range len(text) {
			mustReadByHand(t, "a front", text[:i])
			mustReadByHand(t, "an end", text[len(text)-i:])
			mustReadByHand(t, "a piece left out", text[:i]+text[min(len(text), i+2):])
			mustReadByHand(t, "a line's end put in", text[:i]+"\r\n"+text[i:])
		}
	}
}

func TestReportsWithAByteChanged(t *testing.T) {
	b := bounce(2)
	b.Headers = "--b0\r\nX\r\n"
	text := makeByHand(b)
	for i := 0; i <= len(text); i++ {
		for _, c := range []byte("\x00\r\n \"-.0159:;<>@Bbx~\x7f\x80") {
			mustReadByHand(t, "a byte put in", text[:i]+string([]byte{c})+text[i:])
			if i < len(text) {
				mustReadByHand(t, "a byte changed", text[:i]+string([]byte{c})+text[i+1:])
			}
		}
		if i < len(text) {
			mustReadByHand(t, "a byte left out", text[:i]+text[i+1:])
			mustReadByHand(t, "a letter in the other case", text[:i]+string([]byte{text[i] ^ 32})+text[i+1:])
		}
	}
}

func TestReportsWithSomethingBehindTheEnd(t *testing.T) {
	text := makeByHand(bounce(2))
	for _, more := range []string{"\r\n", " ", "\n", "\x00", "x", "x\r\n", "--b0--\r\n", ".\r\n", text} {
		mustReadByHand(t, "behind the end", text+more)
		mustReadByHand(t, "ahead of the front", more+text)
	}
	// The end may come twice if the first is a line of the headers, but then the
	// boundary is another.
	mustRead(t, "the end twice", text+"--b0--\r\n", impl.Bounce{}, false)
}

func TestReportsWithLinesMovedOrPutTwice(t *testing.T) {
	lines := strings.SplitAfter(makeByHand(bounce(2)), "\r\n")
	for i := range lines {
		mustReadByHand(t, "a line left out", strings.Join(lines[:i], "")+strings.Join(lines[i+1:], ""))
		mustReadByHand(t, "a line put twice", strings.Join(lines[:i], "")+strings.Join(lines[max(i-1, 0):], ""))
		for j := range i {
			moved := append([]string(nil), lines...)
			moved[i], moved[j] = moved[j], moved[i]
			mustReadByHand(t, "two lines changed about", strings.Join(moved, ""))
		}
	}
}

func TestReportsWithOtherNumbers(t *testing.T) {
	text := makeByHand(bounce(1))
	for _, code := range []string{"0550", "+550", "-550", "550.0", "5 50", " 550", "0x226", "00", "-0", "+0", "", "x", "1", "199", "600", "99999999999999999999", "18446744073709552166", "4294967846", "5_5_0"} {
		mustReadByHand(t, "code "+code, strings.Replace(text, "smtp; 550 ", "smtp; "+code+" ", 1))
		mustRead(t, "code "+code+" alone", strings.Replace(text, "smtp; 550 no such user: r0@d0.example", "smtp; "+code, 1), impl.Bounce{}, false)
	}
	mustRead(t, "with LF alone", strings.ReplaceAll(text, "\r\n", "\n"), impl.Bounce{}, false)
	mustRead(t, "with CR alone", strings.ReplaceAll(text, "\r\n", "\r"), impl.Bounce{}, false)
	for _, junk := range []string{"", "x", "\r\n", "From: <>", "From: <>\r\n", strings.Repeat("\r\n", 50000), strings.Repeat("\r\nFinal-Recipient: rfc822; ", 5000)} {
		mustRead(t, "junk", junk, impl.Bounce{}, false)
	}
}

func TestReadBounceAnswersNewMemory(t *testing.T) {
	text := makeByHand(bounce(5))
	first, _ := impl.ReadBounce(text)
	for i := range whole(first.Failures) {
		whole(first.Failures)[i] = impl.Failure{Rcpt: "scribble"}
	}
	mustRead(t, "once more", text, bounce(5), true)
}
