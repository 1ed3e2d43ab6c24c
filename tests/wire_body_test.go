package tests

import (
	"math/rand"
	"strings"
	"testing"

	"loop.example/s01729/impl"
)

// bodyOf is a body of n bytes, in lines as long as they may be; n is not 1.
func bodyOf(n int) string {
	if n == 0 {
		return ""
	}
	line := min(n, 1000)
	if n-line == 1 {
		line--
	}
	return strings.Repeat("b", line-2) + "\r\n" + bodyOf(n-line)
}

// mustBody holds all that the program says of a text that may be a body against the
// document.
func mustBody(t *testing.T, s string, want bool) {
	t.Helper()
	if got := impl.ValidBody(s); got != want {
		t.Fatalf("ValidBody of %d bytes %.80q: %t", len(s), s, got)
	}
	data := impl.Stuff(s)
	if !want {
		if data != "" {
			t.Fatalf("Stuff of %d bytes %.80q, which are no body: %.80q", len(s), s, data)
		}
		return
	}
	if data != stuffByHand(s) {
		t.Fatalf("Stuff of %d bytes %.80q: %.80q", len(s), s, data)
	}
	if end := strings.Index("\r\n"+data, "\r\n.\r\n"); end != len(data)-3 {
		t.Fatalf("the end of %.80q stands at %d of %d bytes", data, end, len(data))
	}
	mustUnstuff(t, data, s, true)
}

func mustUnstuff(t *testing.T, data, body string, ok bool) {
	t.Helper()
	if got, found := impl.Unstuff(data); got != body || found != ok {
		t.Fatalf("Unstuff of %d bytes %.80q: %.80q %t, not %.80q %t", len(data), data, got, found, body, ok)
	}
}

func TestRightBodies(t *testing.T) {
	for _, s := range []string{
		"", "\r\n", "\r\n\r\n", "a\r\n", "a\r\nb\r\n", ".\r\n", "..\r\n", "...\r\n", ".\r\n.\r\n", ".\r\n..\r\n.\r\n", "a.\r\n", ".a\r\n", " .\r\n",
		"\r\n.\r\n", "\r\n.\r\n\r\n", "a\r\n.\r\nb\r\n", "QUIT\r\n", "\x01\x7f\x80\xff\t\r\n", "Subject: x\r\n\r\nhello\r\n",
		strings.Repeat("a", 998) + "\r\n", "." + strings.Repeat("a", 997) + "\r\n", strings.Repeat(".", 998) + "\r\n",
		strings.Repeat("\r\n", 1500), strings.Repeat(".\r\n", 1000), bodyOf(2999), bodyOf(3000),
	} {
		mustBody(t, s, true)
	}
}

func TestWrongBodies(t *testing.T) {
	for _, s := range []string{
		"a", ".", "\r", "\n", "\n\r", "a\n", "a\r", "a\r\nb", "a\r\n\r", "a\r\n\n", "\n\r\n", "\r\r\n", "a\rb\r\n", "a\nb\r\n", "\r\n\r", "\r\n.",
		"\x00", "\x00\r\n", "a\x00b\r\n", "a\r\n\x00\r\n", "a\r\n\x00", "a\r\n\r\r\n",
		strings.Repeat("a", 999) + "\r\n", strings.Repeat("a", 998), strings.Repeat("a", 998) + "\r", "a\r\n" + strings.Repeat("a", 999) + "\r\n",
		"." + strings.Repeat("a", 998) + "\r\n", strings.Repeat("\r\n", 1500) + "\n", strings.Repeat("\r\n", 1501), strings.Repeat(".\r\n", 1001),
		bodyOf(3001), bodyOf(3002), bodyOf(3000) + "a", bodyOf(90000), strings.Repeat("x", 90000),
	} {
		mustBody(t, s, false)
	}
}

func TestBodiesOfEveryLength(t *testing.T) {
	for n := 2980; n < 3020; n++ {
		mustBody(t, bodyOf(n), n <= 3000)
	}
	for n := range 1010 {
		mustBody(t, strings.Repeat("x", n)+"\r\n", n <= 998)
		mustBody(t, "."+strings.Repeat("x", n)+"\r\n", n <= 997)
		mustBody(t, "y\r\n"+strings.Repeat("x", n)+"\r\nz\r\n", n <= 998)
	}
}

func TestBodiesOfAllSorts(t *testing.T) {
	for _, s := range textsOver([]string{"a", ".", "\r", "\n", "\r\n", "\x00"}, 5) {
		mustBody(t, s, bodyByHand(s))
	}
	for _, s := range changedAnywhere("a\r\n.b\r\n") {
		mustBody(t, s, bodyByHand(s))
	}
	r := rand.New(rand.NewSource(15))
	for range 2000 {
		pieces := []string{"\r\n", "a\r\n", ".\r\n", "..\r\n", ".b", "c", strings.Repeat("d", 400), strings.Repeat("e", 990) + "\r\n", "\r\n.\r\n"}
		s := randomPieces(r, pieces, 9)
		mustBody(t, s, bodyByHand(s))
	}
}

// unstuffByHand tries whether a text is the stuffed form of the only body it can be of.
func unstuffByHand(data string) (string, bool) {
	if !strings.HasSuffix("\r\n"+data, "\r\n.\r\n") {
		return "", false
	}
	body := strings.ReplaceAll("\r\n"+data[:len(data)-3], "\r\n.", "\r\n")[2:]
	if !bodyByHand(body) || stuffByHand(body) != data {
		return "", false
	}
	return body, true
}

func TestUnstuffOfWhatIsNotStuffed(t *testing.T) {
	for _, data := range []string{
		"", ".", ".\r", ".\n", "\r\n", "..\r\n", "...\r\n", "a", "a\r\n", "a.\r\n", "a\r\n.", "a\r\n.\r", "a\r\n.\n", "a\n.\r\n", "a\r.\r\n", " .\r\n",
		".a\r\n.\r\n", ".\r\n.\r\n", "\r\n.\r\n.\r\n", "a\r\n.b\r\n.\r\n", ".\r\na\r\n.\r\n", "a\r\n.\r\nb", "a\r\n.\r\nb\r\n", "a\r\n.\r\n\r\n", "a\r\n..\r\n",
		"a\x00\r\n.\r\n", "a\nb\r\n.\r\n", "a\rb\r\n.\r\n", "..a.\r\n", ".\r\n.", strings.Repeat("a", 999) + "\r\n.\r\n",
		strings.Repeat(".", 1000) + "\r\n.\r\n", bodyOf(3001) + ".\r\n", strings.Repeat("..\r\n", 1001) + ".\r\n", strings.Repeat(".\r\n", 9000),
	} {
		mustUnstuff(t, data, "", false)
	}
}

func TestUnstuffOfAllSorts(t *testing.T) {
	for _, data := range append(textsOver([]string{"a", ".", "..", "\r\n", "\r", "\n", ".\r\n"}, 5), changedAnywhere("a\r\n..\r\n.\r\n")...) {
		body, ok := unstuffByHand(data)
		mustUnstuff(t, data, body, ok)
	}
	mustUnstuff(t, ".\r\n", "", true)
	mustUnstuff(t, strings.Repeat(".", 999)+"\r\n.\r\n", strings.Repeat(".", 998)+"\r\n", true)
	mustUnstuff(t, bodyOf(3000)+".\r\n", bodyOf(3000), true)
	mustUnstuff(t, strings.Repeat("..\r\n", 1000)+".\r\n", strings.Repeat(".\r\n", 1000), true)
}

func TestStuffedBodiesAreFoundInAStream(t *testing.T) {
	r := rand.New(rand.NewSource(16))
	for range 500 {
		body := ""
		for range r.Intn(6) {
			body += randomPieces(r, []string{".", "a", "..", " "}, 4) + "\r\n"
		}
		stream := "\r\n" + impl.Stuff(body) + "QUIT\r\n.\r\n"
		end := strings.Index(stream, "\r\n.\r\n") + 5
		mustUnstuff(t, stream[2:end], body, true)
	}
}
