package tests

import (
	"hash/crc32"
	"math/rand"
	"slices"
	"strconv"
	"strings"
	"testing"

	"loop.example/s01729/impl"
)

func TestChecksumIsTheDocuments(t *testing.T) {
	if c := impl.Checksum("123456789"); c != 3421780262 {
		t.Errorf("%d", c)
	}
	for i := range 256 {
		s := string([]byte{byte(i)})
		if c := impl.Checksum(s); c != bitSum(s) {
			t.Errorf("%q: %d, not %d", s, c, bitSum(s))
		}
	}
	for _, s := range payloadsOfAllSorts() {
		if c := impl.Checksum(s); c != bitSum(s) || c != crc32.ChecksumIEEE([]byte(s)) {
			t.Errorf("%.40q: %d, not %d", s, c, bitSum(s))
		}
	}
	r := rand.New(rand.NewSource(1))
	for range 500 {
		s := randomText(r, 60)
		if c := impl.Checksum(s); c != bitSum(s) {
			t.Errorf("%q: %d, not %d", s, c, bitSum(s))
		}
	}
}

func TestChecksumHasNoLimit(t *testing.T) {
	s := strings.Repeat(allBytes(), 100)
	if c := impl.Checksum(s); c != bitSum(s) {
		t.Errorf("%d, not %d", c, bitSum(s))
	}
}

func TestFrameLayout(t *testing.T) {
	for _, p := range payloadsOfAllSorts() {
		if f := impl.Frame(p); f != rightFrame(p) {
			t.Errorf("%.40q: %.60q, not %.60q", p, f, rightFrame(p))
		}
	}
}

func TestFrameLimit(t *testing.T) {
	for size, want := range map[int]int{
		impl.MaxRecord - 1: impl.MaxRecord + 7,
		impl.MaxRecord:     impl.MaxRecord + 8,
		impl.MaxRecord + 1: 0,
		impl.MaxRecord * 9: 0,
	} {
		if f := impl.Frame(strings.Repeat("y", size)); len(f) != want {
			t.Errorf("a payload of %d bytes has a frame of %d bytes, not %d", size, len(f), want)
		}
	}
}

func TestFramesAreReadBack(t *testing.T) {
	var text string
	var all []string
	for _, p := range payloadsOfAllSorts() {
		mustUnframe(t, "alone", impl.Frame(p), []string{p})
		text += impl.Frame(p)
		all = append(all, p)
		mustUnframe(t, "one behind another", text, all)
	}
}

func TestRandomFramesAreReadBack(t *testing.T) {
	r := rand.New(rand.NewSource(2))
	for range 300 {
		payloads := randomTexts(r, 12, 40)
		text := ""
		for _, p := range payloads {
			text += impl.Frame(p)
		}
		mustUnframe(t, "random", text, payloads)
	}
}

func TestTextCutAnywhere(t *testing.T) {
	payloads := []string{"first", "", "\x00\x00\x00\x00\x00\x00\x00\x00", allBytes(), "", "z"}
	text := rightFrames(payloads...)
	for cut := range len(text) + 1 {
		mustUnframe(t, "cut at "+strconv.Itoa(cut), text[:cut], wholeAhead(payloads, cut))
	}
}

func TestLongTextCut(t *testing.T) {
	payloads := []string{strings.Repeat("l", impl.MaxRecord), "m", strings.Repeat("n", impl.MaxRecord)}
	text := rightFrames(payloads...)
	for _, cut := range []int{0, 7, 8, 8007, 8008, 8016, 8017, 8025, 16024, 16025} {
		mustUnframe(t, "cut at "+strconv.Itoa(cut), text[:cut], wholeAhead(payloads, cut))
	}
}

// badFrames are frames that are whole but for one thing. Each but the last two is as
// long as its payload asks, so that a reader who skips it finds the next frame.
func badFrames() map[string]string {
	long := strings.Repeat("o", impl.MaxRecord+1)
	return map[string]string{
		"checksum off by one":         handFrame(3, bitSum("bad")+1, "bad"),
		"checksum of another":         handFrame(3, bitSum("abc"), "bad"),
		"checksum in reverse":         handFrame(1, 0x43beb7e8, "a"),
		"checksum's highest bit":      handFrame(3, bitSum("bad")^1<<31, "bad"),
		"checksum's second byte":      handFrame(3, bitSum("bad")^1<<16, "bad"),
		"checksum's third byte":       handFrame(3, bitSum("bad")^1<<8, "bad"),
		"empty with a checksum":       handFrame(0, 1, ""),
		"length one over the limit":   rightFrame(long),
		"length far over the limit":   rightFrame(long + long),
		"length in reverse":           handFrame(1<<24, bitSum("a"), "a"),
		"length in the third byte":    handFrame(1<<16|1, bitSum("a"), "a"),
		"length with the highest bit": handFrame(1<<31|1, bitSum("a"), "a"),
		"length -1":                   handFrame(1<<32-1, bitSum(""), ""),
		"length one too great":        handFrame(2, bitSum("a"), "a"),
		"length one too small":        handFrame(1, bitSum("ab"), "ab"),
	}
}

func TestReadingEndsAtTheFirstBadFrame(t *testing.T) {
	for name, bad := range badFrames() {
		good := []string{"one", "", "three"}
		for place := 0; place <= len(good); place++ {
			text := rightFrames(good[:place]...) + bad + rightFrames(good[place:]...)
			mustUnframe(t, name+" at "+strconv.Itoa(place), text, good[:place])
			mustUnframe(t, name+" and no more", rightFrames(good[:place]...)+bad, good[:place])
		}
	}
}

func TestAnyFlippedBitIsFound(t *testing.T) {
	payloads := []string{"alpha", "beta", "", "gamma"}
	text := rightFrames(payloads...)
	for i := range text {
		for bit := range 8 {
			b := []byte(text)
			b[i] ^= 1 << bit
			mustUnframe(t, "flipped at "+strconv.Itoa(i), string(b), wholeAhead(payloads, i))
		}
	}
}

func TestUnframeOfNoFrames(t *testing.T) {
	for _, text := range []string{
		"", "a", "\x00", strings.Repeat("\x00", 7), "hello, disk", strings.Repeat("\xff", 100),
		"\x00\x00\x00\x01\xe8\xb7\xbe\x43", strings.Repeat("x", 20000),
	} {
		mustUnframe(t, strconv.Quote(text[:min(20, len(text))]), text, nil)
	}
	mustUnframe(t, "eight zero bytes", strings.Repeat("\x00", 8), []string{""})
	mustUnframe(t, "zero bytes", strings.Repeat("\x00", 31), []string{"", "", ""})
}

func TestUnframeAnswersNewMemory(t *testing.T) {
	text := rightFrames("a", "b")
	first, _ := impl.Unframe(text)
	first[0] = "changed"
	_ = append(first[:1], "changed")
	mustUnframe(t, "behind a change to an answer", text, []string{"a", "b"})
	_, one := impl.Mount(impl.Disk{Main: text})
	_, two := impl.Mount(impl.Disk{Main: text})
	one[1] = "changed"
	if !slices.Equal(two, []string{"a", "b"}) {
		t.Errorf("two answers share memory: %q", two)
	}
}
