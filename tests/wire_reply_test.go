package tests

import (
	"math/rand"
	"slices"
	"strings"
	"testing"

	"loop.example/s01729/impl"
)

var (
	needsMore = replyAnswer{state: impl.PMore}
	isBad     = replyAnswer{state: impl.PBad}
)

func isReply(used, code int, lines ...string) replyAnswer {
	return replyAnswer{impl.Reply{Code: code, Lines: lines}, used, impl.POk}
}

func TestStatesAreTold(t *testing.T) {
	if impl.PMore == impl.POk || impl.POk == impl.PBad || impl.PMore == impl.PBad {
		t.Error("two states are one")
	}
}

func TestWholeReplies(t *testing.T) {
	for buf, want := range map[string]replyAnswer{
		"250\r\n":                                isReply(5, 250, ""),
		"250 \r\n":                               isReply(6, 250, ""),
		"250  \r\n":                              isReply(7, 250, " "),
		"250 ok\r\n":                             isReply(8, 250, "ok"),
		"250 -ok\r\n":                            isReply(9, 250, "-ok"),
		"200 a\r\n":                              isReply(7, 200, "a"),
		"599 a\r\n":                              isReply(7, 599, "a"),
		"220 a\r\n250 b\r\n":                     isReply(7, 220, "a"),
		"250 ok\r\n\r\n":                         isReply(8, 250, "ok"),
		"250 ok\r\n\n":                           isReply(8, 250, "ok"),
		"250 ok\r\n\x00garbage":                  isReply(8, 250, "ok"),
		"250-a\r\n250 b\r\n":                     isReply(14, 250, "a", "b"),
		"250-\r\n250-\r\n250\r\n":                isReply(17, 250, "", "", ""),
		"250--\r\n250  \r\n":                     isReply(14, 250, "-", " "),
		"354 go\x00\xff\x80\t on\r\n":            isReply(15, 354, "go\x00\xff\x80\t on"),
		"421-250 ok\r\n421 421-\r\n421 more\r\n": isReply(22, 421, "250 ok", "421-"),
	} {
		mustParse(t, buf, want)
	}
}

func TestRepliesThatNeedMore(t *testing.T) {
	for _, buf := range []string{
		"", "\r", "2", "25", "250", "250-", "250 ", "250 ok", "250 ok\r", "250\r", "250-a\r\n", "250-a\r\n\r", "250-a\r\n2",
		// Of what is no whole line yet, only its length and its CRs and LFs are asked.
		"9", "x", "hello", "250x", "250-a\r\n251 b", "250-a\r\nx\r", "\x00",
		strings.Repeat("x", 511), strings.Repeat("x", 510) + "\r", "250-a\r\n" + strings.Repeat("x", 511),
		strings.Repeat("250-\r\n", 49), strings.Repeat("250-\r\n", 49) + "250 last\r",
	} {
		mustParse(t, buf, needsMore)
	}
}

func TestRepliesThatAreBad(t *testing.T) {
	for _, buf := range []string{
		"\n", "\r\n", "\r\r", "\rx", "\n\r\n", "2\r\n", "25\r\n", "250\n", "250 a\n", "250 a\rb", "250 a\r\r", "250 a\r\r\n", "250 a\n\r\n",
		"250 \ra\r\n", "250-a\r\n\n", "250-a\r\n\r\n", "250-a\r\n\r\r", "25 a\r\n", "2 50\r\n", "a50 a\r\n", "2a0 a\r\n", "25a a\r\n",
		"-50 a\r\n", "+25 a\r\n", " 250 a\r\n", "000 a\r\n", "100 a\r\n", "199 a\r\n", "600 a\r\n", "999 a\r\n", "250a\r\n", "2500 a\r\n",
		"250_a\r\n", "250\ta\r\n", "250.a\r\n", "250,a\r\n", "250\x00a\r\n", "250\xa0a\r\n", "2/0 a\r\n", "2:0 a\r\n", "20/ a\r\n", "20: a\r\n",
		"250-a\r\n251 b\r\n", "250-a\r\n350 b\r\n", "250-a\r\n260-b\r\n250 c\r\n", "250-a\r\n250-b\r\n550 c\r\n", "250-a\r\nb\r\n", "250-a\r\n25\r\n",
		"250-a\r\n250b\r\n", "٢٥٠ a\r\n",
		strings.Repeat("x", 512), strings.Repeat("x", 511) + "\r", strings.Repeat("x", 512) + "\r", strings.Repeat("x", 5000),
		"250-a\r\n" + strings.Repeat("x", 512),
	} {
		mustParse(t, buf, isBad)
		mustParse(t, buf+"\r\n250 ok\r\n", isBad)
	}
}

func TestReplyLineLimit(t *testing.T) {
	for n := 500; n < 530; n++ {
		text := strings.Repeat("t", n-6)
		alone, second, cut, cutCR := isBad, isBad, isBad, isBad
		if n <= 512 {
			alone, second = isReply(n, 250, text), isReply(7+n, 250, "a", text)
		}
		if n-2 < 512 {
			cut = needsMore
		}
		if n-1 < 512 {
			cutCR = needsMore
		}
		mustParse(t, "250 "+text+"\r\n", alone)
		mustParse(t, "250 "+text+"\r\nmore", alone)
		mustParse(t, "250-a\r\n250 "+text+"\r\n", second)
		for _, ahead := range []string{"", "250-a\r\n"} {
			mustParse(t, ahead+"250 "+text, cut)
			mustParse(t, ahead+"250 "+text+"\r", cutCR)
		}
	}
}

func TestReplyLinesLimit(t *testing.T) {
	for n := 40; n < 60; n++ {
		open := strings.Repeat("250-\r\n", n)
		if n >= 50 {
			mustParse(t, open, isBad)
			mustParse(t, open+"250 end\r\n", isBad)
			mustParse(t, open+"\r\n", isBad)
			continue
		}
		mustParse(t, open, needsMore)
		mustParse(t, open+"250", needsMore)
		mustParse(t, open+"\n", isBad)
		mustParse(t, open+"250 end\r\n", isReply(6*n+9, 250, append(make([]string, n), "end")...))
		mustParse(t, open+"250 end\r\n250 next\r\n", isReply(6*n+9, 250, append(make([]string, n), "end")...))
	}
	// The number of lines is asked ahead of anything else.
	mustParse(t, strings.Repeat("250-\r\n", 49)+"251-\r\n", isBad)
	mustParse(t, strings.Repeat("250-\r\n", 49)+"250\r\n", isReply(299, 250, make([]string, 50)...))
}

func TestLoneBreaksAtEveryPlace(t *testing.T) {
	for _, text := range []string{"250 ok\r\n", "250-a\r\n250 b\r\n", "250-\r\n250\r\n", "250-a\r\n250-b"} {
		for i := 0; i <= len(text); i++ {
			for _, lone := range []string{"\r", "\n", "\n\r", "\r\r", "\n\n"} {
				mustParseByHand(t, text[:i]+lone+text[i:])
				mustParseByHand(t, text[:i]+lone)
			}
		}
	}
}

// mustStay reads every front of a text, and holds each reading against the document
// and against those ahead of it.
func mustStay(t *testing.T, text string) {
	t.Helper()
	decided := needsMore
	for cut := 0; cut <= len(text); cut++ {
		mustParseByHand(t, text[:cut])
		got := parsed(text[:cut])
		if decided.state != impl.PMore && !got.same(decided) {
			t.Fatalf("%d bytes of %.80q: %v, but with less it was %v", cut, text, got, decided)
		}
		decided = got
	}
}

func TestRepliesCutAtEveryPlace(t *testing.T) {
	for _, text := range []string{
		"250 ok\r\n250 more\r\n", "250-a\r\n250-\r\n250 c\r\n\n\r", "250-a\r\n251 b\r\n250 c\r\n", "250 a\rb\r\n250 c\r\n", "x\r\n250 ok\r\n",
		"250 a\nb\r\n250 c\r\n", "250\r\n250\r\n", "250 " + strings.Repeat("x", 506) + "\r\n250 ok\r\n",
		"250 " + strings.Repeat("x", 507) + "\r\n250 ok\r\n", strings.Repeat("x", 600) + "\r\n250 ok\r\n",
		strings.Repeat("250-\r\n", 49) + "250 end\r\n250 ok\r\n", strings.Repeat("250-\r\n", 50) + "250 end\r\n250 ok\r\n",
		strings.Repeat("250-abc\r\n", 20) + "250\r\nx\r\n",
	} {
		mustStay(t, text)
	}
}

func TestRepliesOfAllSorts(t *testing.T) {
	for _, text := range textsOver([]string{"2", "250", "-", " ", "\r", "\n", "x", "\r\n"}, 5) {
		mustParseByHand(t, text)
	}
	for _, text := range textsOver([]string{"250-\r\n", "250 a\r\n", "251-\r\n", "250", "\r", "\n"}, 5) {
		mustParseByHand(t, text)
	}
	for _, text := range changedAnywhere("250-a\r\n250 b\r\n") {
		mustParseByHand(t, text)
	}
}

func TestRandomRepliesInParts(t *testing.T) {
	r := rand.New(rand.NewSource(13))
	pieces := []string{
		"250-\r\n", "250-a\r\n", "250-a b\r\n", "250-", "250 ", "251-x\r\n", "250 end\r\n", "250\r\n", "\r\n", "x", "9", "\r", "\n",
		strings.Repeat("y", 200), strings.Repeat("y", 250) + "\r\n", strings.Repeat("250-z\r\n", 17),
	}
	seen := map[int]int{}
	for range 400 {
		text := randomPieces(r, pieces, 8)
		mustStay(t, text)
		seen[parsed(text).state]++
	}
	if seen[impl.PMore] < 20 || seen[impl.POk] < 20 || seen[impl.PBad] < 20 {
		t.Errorf("the test tells little: %v", seen)
	}
}

func TestRepliesOneBehindAnother(t *testing.T) {
	rest := "220 hi\r\n250-a\r\n250 b\r\n354\r\n"
	for _, want := range []replyAnswer{isReply(8, 220, "hi"), isReply(14, 250, "a", "b"), isReply(5, 354, ""), needsMore} {
		mustParse(t, rest, want)
		rest = rest[want.used:]
	}
}

func TestReplyAnswersNewMemory(t *testing.T) {
	first := parsed("250-a\r\n250 b\r\n")
	first.reply.Lines[0] = "changed"
	_ = append(first.reply.Lines[:1], "changed")
	mustParse(t, "250-a\r\n250 b\r\n", isReply(14, 250, "a", "b"))
}

func mustSize(t *testing.T, lines []string, n int64, ok bool) {
	t.Helper()
	given := slices.Clone(lines)
	if got, found := impl.SizeLimit(given); got != n || found != ok {
		t.Fatalf("SizeLimit of %.80q: %d %t, not %d %t", lines, got, found, n, ok)
	}
	if !slices.Equal(given, lines) {
		t.Fatalf("SizeLimit changed its lines: %.80q", given)
	}
}

func TestSizeLimits(t *testing.T) {
	for line, want := range map[string]int64{
		"SIZE 0": 0, "SIZE 1": 1, "SIZE 9": 9, "SIZE 10": 10, "SIZE 1234567890": 1234567890, "SIZE 9999999999": 9999999999,
		"SIZE 0000000005": 5, "SIZE 0000000000": 0, "SIZE 007": 7, "size 4294967296": 4294967296, "SIZE 2147483648": 2147483648,
	} {
		mustSize(t, []string{"x", line}, want, true)
		mustSize(t, []string{line}, 0, false)
		mustSize(t, []string{line, "x"}, 0, false)
		mustSize(t, []string{"SIZE 77", line}, want, true)
		mustSize(t, []string{"x", "PIPELINING", "SIZE", line, "SIZE 66"}, want, true)
	}
}

func TestSizeInEveryCase(t *testing.T) {
	for mask := range 16 {
		word := []byte("SIZE")
		for i := range word {
			if mask>>i&1 == 1 {
				word[i] += 'a' - 'A'
			}
		}
		mustSize(t, []string{"x", string(word) + " 42"}, 42, true)
	}
}

func TestLinesWithoutSize(t *testing.T) {
	for _, line := range []string{
		"", " ", "SIZE", "SIZE ", "SIZE  5", "SIZE 5 ", " SIZE 5", "SIZE 5 5", "SIZE\t5", "SIZE5", "SIZE=5", "SIZE-5", "SIZE +5", "SIZE -5", "SIZE a",
		"SIZE 5a", "SIZE 5.0", "SIZE 0x5", "SIZE 12345678901", "SIZE 00000000005", "SIZES 5", "SIZ 5", "ISIZE 5", "\x13IZE 5", "SIZE 1_000",
		"ſIZE 5", "SıZE 5", "SİZE 5", "SIZE ٥", "SIZE 5\r", "SIZE 5\x00", "SIZE 5\r\n", "SIZE /", "SIZE :", strings.Repeat("SIZE 5", 9),
		"SIZE " + strings.Repeat("9", 400),
	} {
		mustSize(t, []string{"x", line}, 0, false)
		mustSize(t, []string{"x", line, "SIZE 8"}, 8, true)
	}
	mustSize(t, nil, 0, false)
	mustSize(t, []string{}, 0, false)
}

func TestSizesOfAllSorts(t *testing.T) {
	for _, line := range append(changedAnywhere("SIZE 12"), textsOver([]string{"SIZE", "size", " ", "5", "x"}, 4)...) {
		n, ok := sizeByHand([]string{"", line})
		mustSize(t, []string{"", line}, n, ok)
	}
	r := rand.New(rand.NewSource(14))
	for range 2000 {
		var lines []string
		for range r.Intn(6) {
			lines = append(lines, randomPieces(r, []string{"SIZE ", "size ", "5", "0", "123456789", " "}, 3))
		}
		n, ok := sizeByHand(lines)
		mustSize(t, lines, n, ok)
	}
}

func TestSizeOfAReply(t *testing.T) {
	got := parsed("250-here\r\n250-8BITMIME\r\n250 Size 1000\r\n")
	if n, ok := impl.SizeLimit(got.reply.Lines); n != 1000 || !ok {
		t.Errorf("%d %t", n, ok)
	}
}
