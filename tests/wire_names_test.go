package tests

import (
	"math"
	"math/rand"
	"strings"
	"testing"

	"loop.example/s01729/impl"
)

func mustDomain(t *testing.T, s string, want bool) {
	t.Helper()
	if got := impl.ValidDomain(s); got != want {
		t.Fatalf("ValidDomain of %d bytes %.80q: %t", len(s), s, got)
	}
}

func mustAddress(t *testing.T, s string, want bool) {
	t.Helper()
	if got := impl.ValidAddress(s); got != want {
		t.Fatalf("ValidAddress of %d bytes %.80q: %t", len(s), s, got)
	}
}

// domainOf is a domain of n bytes, for n from 1 on.
func domainOf(n int) string {
	if n <= 63 {
		return strings.Repeat("d", n)
	}
	return strings.Repeat("d", 50) + "." + domainOf(n-51)
}

func TestDomains(t *testing.T) {
	for _, s := range []string{
		"a", "z", "0", "9", "a.b", "a-b", "a--b", "9.9", "xn--a.example", "a.b.c.d.e", "1-2.3-4",
		domainOf(63), domainOf(64), domainOf(99), domainOf(100),
		strings.Repeat("a.", 49) + "ab", strings.Repeat("a", 63) + ".a", "a." + strings.Repeat("a", 63),
		"a" + strings.Repeat("-", 61) + "a",
	} {
		mustDomain(t, s, true)
	}
	for _, s := range []string{
		"", ".", "..", "-", "--", "a.", ".a", "a..b", "a...b", "..a", "a..", "-a", "a-", "a.-b", "a-.b", "a.b-",
		"-a.b", "A", "a.B", "a_b", "a+b", "a b", " a", "a ", "a@b", "a\x00", "\x00", "a\r\n", "a\n", "é", "\xff",
		"a/b", "a:b", "a`b", "a{b", "[", "a,b", domainOf(101), domainOf(200), strings.Repeat("a.", 50) + "a",
		strings.Repeat("a", 64), strings.Repeat("a", 64) + ".a", "a." + strings.Repeat("a", 64),
		"a." + strings.Repeat("a", 64) + ".a", strings.Repeat("a", 62) + "-", strings.Repeat("a.", 5000),
	} {
		mustDomain(t, s, false)
	}
}

func TestDomainsOfEveryLength(t *testing.T) {
	for n := range 130 {
		if n > 0 {
			mustDomain(t, domainOf(n), n <= 100)
		}
		mustDomain(t, strings.Repeat("x", n), n >= 1 && n <= 63)
		mustDomain(t, strings.Repeat("x", n)+".y", n >= 1 && n <= 63)
		mustDomain(t, "y."+strings.Repeat("x", n), n >= 1 && n <= 63)
	}
}

func TestDomainsOfAllSorts(t *testing.T) {
	for _, s := range textsOver([]string{"a", "9", "-", ".", "A", "@"}, 5) {
		mustDomain(t, s, domainByHand(s))
	}
	for _, s := range changedAnywhere("ab-c.9") {
		mustDomain(t, s, domainByHand(s))
	}
	r := rand.New(rand.NewSource(10))
	for range 4000 {
		s := randomPieces(r, []string{"a", "b7", ".", ".", "-", strings.Repeat("k", 30), strings.Repeat("m", 61)}, 9)
		mustDomain(t, s, domainByHand(s))
	}
}

func TestAddresses(t *testing.T) {
	longLocal := strings.Repeat("l", 64)
	for _, s := range []string{
		"a@b", "a.b@c", "a.b.c@d.e", "+@b", "_@b", "-@b", "-a-@b", "+a+@b", "a.-.b@c", "a.+@b", "0@0", "a.b+c_d-e@x.y",
		longLocal + "@b", longLocal + "@" + domainOf(95), "a@" + domainOf(100), strings.Repeat("l", 59) + "@" + domainOf(100),
		"a." + strings.Repeat("l", 62) + "@b",
	} {
		mustAddress(t, s, true)
	}
	for _, s := range []string{
		"", "@", "a", "a@", "@b", "@@", "a@@b", "a@b@", "@a@b", "a@b@c", ".@b", "..@b", ".a@b", "a.@b", "a..b@c", "a...b@c",
		"a b@c", " a@b", "a@b ", "A@b", "a@B", "a@-b", "a@b-", "a@b..c", "a@.b", "a@b.", "a@b_c", "a@b+c", "é@b", "\x00@b",
		"a\r\n@b", "a@b\r\n", "<a@b>", "a!b@c", "a/b@c", "a,b@c", "a*b@c", "a=b@c", "\"a\"@b", "a`@b", "a{@b", "a:@b",
		longLocal + "l@b", longLocal + "@" + domainOf(96), strings.Repeat("l", 60) + "@" + domainOf(100),
		"a@" + domainOf(101), "a@" + strings.Repeat("d", 64), strings.Repeat("a@", 5000),
	} {
		mustAddress(t, s, false)
	}
}

func TestAddressesOfEveryLength(t *testing.T) {
	for local := range 80 {
		for domain := 1; domain < 120; domain++ {
			want := local >= 1 && local <= 64 && domain <= 100 && local+1+domain <= 160
			mustAddress(t, strings.Repeat("x", local)+"@"+domainOf(domain), want)
		}
	}
}

func TestAddressesOfAllSorts(t *testing.T) {
	for _, s := range textsOver([]string{"a", "@", ".", "-", "+"}, 6) {
		mustAddress(t, s, addressByHand(s))
	}
	for _, s := range changedAnywhere("a.b+c@d-e.f") {
		mustAddress(t, s, addressByHand(s))
	}
	r := rand.New(rand.NewSource(11))
	for range 4000 {
		s := randomPieces(r, []string{"a", "b_", ".", "-", "+", "@", "@x", strings.Repeat("k", 30), strings.Repeat("m", 61)}, 9)
		mustAddress(t, s, addressByHand(s))
	}
}

// lineByHand is the document's table of commands.
func lineByHand(kind int, arg string) string {
	form := map[int]string{1: "EHLO %", 2: "HELO %", 3: "MAIL FROM:<%>", 4: "RCPT TO:<%>", 5: "DATA", 6: "QUIT"}[kind]
	right := map[int]bool{
		1: domainByHand(arg), 2: domainByHand(arg), 3: arg == "" || addressByHand(arg),
		4: addressByHand(arg), 5: arg == "", 6: arg == "",
	}[kind]
	if !right {
		return ""
	}
	return strings.Replace(form, "%", arg, 1) + "\r\n"
}

func TestCommandLines(t *testing.T) {
	longest := strings.Repeat("l", 64) + "@" + domainOf(95)
	args := []string{
		"", "a", "a.b", "a@b", longest, longest + "d", domainOf(100), domainOf(101), "a@" + domainOf(100), "a@" + domainOf(101),
		"A", "a b", "a@b c", "a\r\nQUIT", "a@b>\r\nDATA\r\n<a@b", "\r\n", " ", "<a@b>", "<>", "-", "@", "a@", "@a", ".", "a..b", "%", "\x00",
	}
	kinds := []int{impl.CEhlo, impl.CHelo, impl.CMail, impl.CRcpt, impl.CData, impl.CQuit, 0, -1, 7, 8, 100, math.MinInt, math.MaxInt}
	for _, kind := range kinds {
		for _, arg := range append(args, changedAnywhere("a@b")...) {
			if got, want := impl.Command(kind, arg), lineByHand(kind, arg); got != want {
				t.Fatalf("Command(%d, %q): %q, not %q", kind, arg, got, want)
			}
		}
	}
}

func TestCommandNames(t *testing.T) {
	for line, got := range map[string]string{
		"EHLO a.b\r\n":        impl.Command(impl.CEhlo, "a.b"),
		"HELO a.b\r\n":        impl.Command(impl.CHelo, "a.b"),
		"MAIL FROM:<>\r\n":    impl.Command(impl.CMail, ""),
		"MAIL FROM:<a@b>\r\n": impl.Command(impl.CMail, "a@b"),
		"RCPT TO:<a+1@b>\r\n": impl.Command(impl.CRcpt, "a+1@b"),
		"DATA\r\n":            impl.Command(impl.CData, ""),
		"QUIT\r\n":            impl.Command(impl.CQuit, ""),
	} {
		if got != line {
			t.Errorf("%q, not %q", got, line)
		}
	}
}

func TestEveryCommandIsOneShortLine(t *testing.T) {
	r := rand.New(rand.NewSource(12))
	for range 6000 {
		arg := randomPieces(r, []string{"a", ".", "@", "-", "\r", "\n", "\r\n", ">", strings.Repeat("q", 60)}, 8)
		kind := r.Intn(9) - 1
		line := impl.Command(kind, arg)
		if line == "" {
			continue
		}
		if len(line) > 512 || strings.Index(line, "\r\n") != len(line)-2 || strings.ContainsAny(line[:len(line)-2], "\r\n") {
			t.Fatalf("Command(%d, %q) is not one short line: %q", kind, arg, line)
		}
	}
}
