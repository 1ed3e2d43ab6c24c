package tests

import (
	"fmt"
	"math"
	"math/rand"
	"slices"
	"strings"
	"testing"

	"loop.example/s01729/impl"
)

// bitSum is the checksum by the document's own words, a bit at a time.
func bitSum(s string) uint32 {
	register := uint32(4294967295)
	for i := 0; i < len(s); i++ {
		register ^= uint32(s[i])
		for range 8 {
			if register&1 == 1 {
				register = register>>1 ^ 3988292384
			} else {
				register >>= 1
			}
		}
	}
	return register ^ 4294967295
}

func fourBytes(n uint32) string {
	var b []byte
	for _, shift := range []int{24, 16, 8, 0} {
		b = append(b, byte(n>>shift))
	}
	return string(b)
}

// handFrame is a frame made without the program, of any length and checksum.
func handFrame(size, sum uint32, payload string) string {
	return fourBytes(size) + fourBytes(sum) + payload
}

// rightFrame is a frame with the right length and checksum, over the limit or not.
func rightFrame(payload string) string {
	return handFrame(uint32(len(payload)), bitSum(payload), payload)
}

func rightFrames(payloads ...string) string {
	var b strings.Builder
	for _, p := range payloads {
		b.WriteString(rightFrame(p))
	}
	return b.String()
}

func allBytes() string {
	b := make([]byte, 256)
	for i := range b {
		b[i] = byte(i)
	}
	return string(b)
}

func randomText(r *rand.Rand, most int) string {
	b := make([]byte, r.Intn(most+1))
	for i := range b {
		b[i] = byte(r.Intn(256))
	}
	return string(b)
}

func randomTexts(r *rand.Rand, count, most int) []string {
	var texts []string
	for range r.Intn(count + 1) {
		texts = append(texts, randomText(r, most))
	}
	return texts
}

// payloadsOfAllSorts has what a reader of frames may stumble over.
func payloadsOfAllSorts() []string {
	return []string{
		"", "a", "\x00", "\xff\xff\xff\xff", "\r\n", "héllo", allBytes(),
		strings.Repeat("\x00", 8), rightFrame("inner"),
		strings.Repeat("q", 255), strings.Repeat("q", 256), strings.Repeat("q", 257),
		strings.Repeat("z", impl.MaxRecord-1), strings.Repeat("z", impl.MaxRecord),
	}
}

// counts are numbers around what n bytes or steps can be.
func counts(n int) []int {
	list := []int{math.MinInt, -1000, -1, math.MaxInt, n + 1, n + 1000}
	for i := 0; i <= n; i++ {
		list = append(list, i)
	}
	return list
}

// clamp is how many of n things a count of keep stands for.
func clamp(keep, n int) int {
	if keep < 0 {
		return 0
	}
	if keep > n {
		return n
	}
	return keep
}

// wholeAhead is the payloads whose frames lie wholly in the first n bytes of theirs.
func wholeAhead(payloads []string, n int) []string {
	end := 0
	for i, p := range payloads {
		end += 8 + len(p)
		if end > n {
			return payloads[:i]
		}
	}
	return payloads
}

func mustUnframe(t *testing.T, what, text string, want []string) {
	t.Helper()
	got, n := impl.Unframe(text)
	if !slices.Equal(got, want) {
		t.Fatalf("%s: Unframe reads %d payloads %.80q, not %d %.80q", what, len(got), got, len(want), want)
	}
	if length := len(rightFrames(want...)); n != length {
		t.Fatalf("%s: Unframe reads %d bytes, not %d", what, n, length)
	}
}

func told(d impl.Disk) string {
	return fmt.Sprintf("{%.80q %.80q %t %.80q %.80q}", d.Main, d.Loose, d.HasTemp, d.Temp, d.TempLoose)
}

func mustBe(t *testing.T, what string, got, want impl.Disk) {
	t.Helper()
	if got != want {
		t.Fatalf("%s: %s, not %s", what, told(got), told(want))
	}
}

// mustMount holds a mount of d against the records that it must find, and mounts
// what came of it again.
func mustMount(t *testing.T, what string, d impl.Disk, want []string) {
	t.Helper()
	got, records := impl.Mount(d)
	if !slices.Equal(records, want) {
		t.Fatalf("%s: Mount finds %.80q, not %.80q", what, records, want)
	}
	mustBe(t, what, got, impl.Disk{Main: rightFrames(want...)})
	again, records := impl.Mount(got)
	if !slices.Equal(records, want) {
		t.Fatalf("%s: a second Mount finds %.80q, not %.80q", what, records, want)
	}
	mustBe(t, what+", mounted again", again, got)
}
