package tests

import (
	"fmt"
	"math"
	"math/rand"
	"slices"
	"strings"
	"testing"

	"loop.example/s01729/impl"
)

// anyDisks have fields that no engine would leave behind, next to some that it would.
func anyDisks() []impl.Disk {
	return []impl.Disk{
		{},
		{Main: rightFrames("a", "bc")},
		{Main: rightFrames("a"), Loose: rightFrames("b")},
		{Main: "main", Loose: "loose", HasTemp: true, Temp: "temp", TempLoose: "temploose"},
		{Main: "main", Loose: "loose", HasTemp: false, Temp: "temp", TempLoose: "temploose"},
		{Loose: rightFrames("l"), TempLoose: rightFrames("t")},
		{HasTemp: true},
		{HasTemp: true, Temp: rightFrames("new", "er"), TempLoose: "\x00"},
		{Main: rightFrames("a") + "torn", Loose: "\xff", Temp: "\xfe"},
		{Main: strings.Repeat("\x00", 17), HasTemp: true, TempLoose: strings.Repeat("k", 9000)},
	}
}

func TestAppendTouchesLooseAlone(t *testing.T) {
	for _, d := range anyDisks() {
		for _, p := range payloadsOfAllSorts() {
			want := d
			want.Loose = d.Loose + rightFrame(p)
			mustBe(t, "Append", impl.Append(d, p), want)
		}
		for _, size := range []int{impl.MaxRecord + 1, 2*impl.MaxRecord + 1} {
			mustBe(t, "Append of too much", impl.Append(d, strings.Repeat("w", size)), d)
		}
	}
}

func TestSyncLeavesTheSecondFile(t *testing.T) {
	for _, d := range anyDisks() {
		want := d
		want.Main, want.Loose = d.Main+d.Loose, ""
		mustBe(t, "Sync", impl.Sync(d), want)
		mustBe(t, "Sync twice", impl.Sync(impl.Sync(d)), want)
	}
}

func TestCrashKeepsParts(t *testing.T) {
	for _, d := range anyDisks()[:8] {
		for _, keep := range counts(len(d.Loose)) {
			for _, keepTemp := range counts(len(d.TempLoose)) {
				want := impl.Disk{
					Main:    d.Main + d.Loose[:clamp(keep, len(d.Loose))],
					HasTemp: d.HasTemp,
					Temp:    d.Temp + d.TempLoose[:clamp(keepTemp, len(d.TempLoose))],
				}
				mustBe(t, fmt.Sprint("Crash ", keep, keepTemp), impl.Crash(d, keep, keepTemp), want)
			}
		}
	}
}

func TestCrashOfLongLoose(t *testing.T) {
	d := impl.Disk{Loose: strings.Repeat("v", 70000), TempLoose: strings.Repeat("u", 66000)}
	got := impl.Crash(d, 69999, 65999)
	if len(got.Main) != 69999 || len(got.Temp) != 65999 {
		t.Errorf("%d and %d bytes are left", len(got.Main), len(got.Temp))
	}
}

func TestMountKeepsOnlyFrames(t *testing.T) {
	for _, d := range anyDisks() {
		mustMount(t, told(d), d, readByHand(d.Main))
	}
	for name, bad := range badFrames() {
		d := impl.Disk{Main: rightFrames("x", "") + bad + rightFrames("y"), Loose: rightFrames("l"), HasTemp: true, Temp: rightFrames("t")}
		mustMount(t, name, d, []string{"x", ""})
	}
}

// readByHand reads the frames at the front of a text, with the document's four
// conditions one by one.
func readByHand(text string) []string {
	var payloads []string
	for len(text) >= 8 {
		size, sum := 0, uint32(0)
		for i := range 4 {
			size = size*256 + int(text[i])
			sum = sum*256 + uint32(text[4+i])
		}
		if size > 8000 || len(text)-8 < size || bitSum(text[8:8+size]) != sum {
			break
		}
		payloads = append(payloads, text[8:8+size])
		text = text[8+size:]
	}
	return payloads
}

func TestMountOfAnything(t *testing.T) {
	r := rand.New(rand.NewSource(3))
	for range 2000 {
		main := rightFrames(randomTexts(r, 4, 12)...) + randomText(r, 12) + rightFrames(randomTexts(r, 2, 5)...)
		d := impl.Disk{Main: main, Loose: randomText(r, 9), HasTemp: r.Intn(2) == 0, Temp: randomText(r, 9), TempLoose: randomText(r, 9)}
		mustMount(t, fmt.Sprintf("%q", main), d, readByHand(main))
	}
}

// history is a disk with the records that were synced and appended on it.
type history struct {
	disk          impl.Disk
	synced, loose []string
}

func (h *history) step(r *rand.Rand) {
	if r.Intn(4) == 0 {
		h.disk = impl.Sync(h.disk)
		h.synced, h.loose = append(h.synced, h.loose...), nil
		return
	}
	p := randomText(r, 7)
	h.disk = impl.Append(h.disk, p)
	h.loose = append(h.loose, p)
}

// left is what a mount must find when the first keep loose bytes survive.
func (h *history) left(keep int) []string {
	return append(slices.Clone(h.synced), wholeAhead(h.loose, keep)...)
}

func TestSyncedRecordsSurviveEveryCrash(t *testing.T) {
	r := rand.New(rand.NewSource(4))
	for range 40 {
		h := &history{}
		for range 14 {
			h.step(r)
			for _, keep := range counts(len(h.disk.Loose)) {
				mustMount(t, fmt.Sprint("keep ", keep), impl.Crash(h.disk, keep, r.Intn(20)), h.left(keep))
			}
		}
	}
}

func TestLifeGoesOnBehindACrash(t *testing.T) {
	r := rand.New(rand.NewSource(5))
	h := &history{}
	for range 300 {
		h.step(r)
		if r.Intn(6) != 0 {
			continue
		}
		keep := r.Intn(len(h.disk.Loose)+4) - 2
		crashed := impl.Crash(h.disk, keep, keep)
		mustMount(t, "many crashes", crashed, h.left(keep))
		h.synced, h.loose = h.left(keep), nil
		h.disk, _ = impl.Mount(crashed)
	}
	if len(h.synced) < 50 {
		t.Errorf("only %d records: the test tells nothing", len(h.synced))
	}
}

func TestLongRecordsSurvive(t *testing.T) {
	long := strings.Repeat("\xa5", impl.MaxRecord)
	d := impl.Sync(impl.Append(impl.Disk{}, long))
	d = impl.Append(impl.Append(impl.Append(d, ""), long+"x"), long)
	for keep, want := range map[int][]string{
		-1: {long}, 0: {long}, 7: {long}, 8: {long, ""}, 8015: {long, ""},
		8016: {long, "", long}, 8017: {long, "", long}, math.MaxInt: {long, "", long},
	} {
		mustMount(t, fmt.Sprint("keep ", keep), impl.Crash(d, keep, 0), want)
	}
}

// compactByHand is the document's three steps, each written out.
func compactByHand(d impl.Disk, frames string, steps int) impl.Disk {
	switch {
	case steps < 1:
		return d
	case steps == 1:
		return impl.Disk{Main: d.Main, Loose: d.Loose, HasTemp: true, TempLoose: frames}
	case steps == 2:
		return impl.Disk{Main: d.Main, Loose: d.Loose, HasTemp: true, Temp: frames}
	}
	return impl.Disk{Main: frames}
}

func TestCompactSteps(t *testing.T) {
	long := strings.Repeat("j", impl.MaxRecord)
	for _, c := range []struct {
		records []string
		frames  string
	}{
		{nil, ""},
		{[]string{}, ""},
		{[]string{""}, rightFrame("")},
		{[]string{"a", "", "b"}, rightFrames("a", "", "b")},
		{[]string{"b", "a", "a"}, rightFrames("b", "a", "a")},
		{[]string{long, "a"}, rightFrames(long, "a")},
		{[]string{"a", long + "x", "b"}, rightFrames("a", "b")},
		{[]string{long + "x"}, ""},
	} {
		for _, d := range anyDisks() {
			for _, steps := range counts(3) {
				records := slices.Clone(c.records)
				got := impl.Compact(d, records, steps)
				mustBe(t, fmt.Sprint("Compact ", steps), got, compactByHand(d, c.frames, steps))
				if !slices.Equal(records, c.records) {
					t.Errorf("Compact changed its records: %.80q", records)
				}
			}
		}
	}
}

func TestCrashWithinACompaction(t *testing.T) {
	r := rand.New(rand.NewSource(6))
	for range 60 {
		h := &history{}
		for range r.Intn(9) {
			h.step(r)
		}
		h.disk.HasTemp, h.disk.Temp, h.disk.TempLoose = r.Intn(2) == 0, randomText(r, 9), randomText(r, 9)
		fresh := randomTexts(r, 3, 5)
		for _, steps := range counts(3) {
			d := impl.Compact(h.disk, fresh, steps)
			for _, keep := range counts(len(d.Loose)) {
				want := h.left(keep)
				if steps >= 3 {
					want = fresh
				}
				for _, keepTemp := range counts(len(d.TempLoose)) {
					mustMount(t, fmt.Sprint("steps ", steps), impl.Crash(d, keep, keepTemp), want)
				}
			}
		}
	}
}

func TestCompactedDiskGoesOn(t *testing.T) {
	d := impl.Sync(impl.Append(impl.Disk{}, "old"))
	d = impl.Compact(d, []string{"new"}, 3)
	d = impl.Append(impl.Sync(impl.Append(d, "synced")), "loose")
	mustMount(t, "behind a compaction", impl.Crash(d, 12, 0), []string{"new", "synced"})
}
