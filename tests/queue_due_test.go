package tests

import (
	"fmt"
	"math"
	"math/rand"
	"slices"
	"sort"
	"testing"

	"loop.example/s01729/impl"
)

func TestDelays(t *testing.T) {
	for tries, want := range []int64{0, 60, 120, 240, 480, 960, 1920, 3840, 7680, 14400, 14400, 14400} {
		if got := impl.Delay(tries); got != want {
			t.Fatalf("Delay(%d) is %d, not %d", tries, got, want)
		}
	}
	for _, tries := range []int{-1, -2, -60, -1000000, math.MinInt, math.MinInt + 1} {
		if got := impl.Delay(tries); got != 0 {
			t.Fatalf("Delay(%d) is %d", tries, got)
		}
	}
	// Doubled so often, a number of 64 bits has long come round to 0 or below it.
	for _, tries := range []int{57, 58, 59, 60, 61, 62, 63, 64, 65, 66, 100, 128, 129, 999999, 1 << 32, math.MaxInt - 1, math.MaxInt} {
		if got := impl.Delay(tries); got != 14400 {
			t.Fatalf("Delay(%d) is %d", tries, got)
		}
	}
}

// dueByHand sorts what is due by its three questions.
func dueByHand(q impl.Queue, now int64) []int {
	var due []impl.Item
	for _, x := range q.Items {
		if x.Due <= now {
			due = append(due, x)
		}
	}
	sort.SliceStable(due, func(i, j int) bool {
		if due[i].Due != due[j].Due {
			return due[i].Due < due[j].Due
		}
		return due[i].Msg.Id < due[j].Msg.Id
	})
	var ids []int
	for _, x := range due {
		ids = append(ids, x.Msg.Id)
	}
	return ids
}

func mustDue(t *testing.T, q impl.Queue, now int64, want ...int) {
	t.Helper()
	given, kept := roomyQueue(q), roomyQueue(q)
	got := impl.DueIds(given, now)
	if !slices.Equal(got, want) {
		t.Fatalf("DueIds of %.500q at %d: %v, not %v", fmt.Sprint(q), now, got, want)
	}
	if !same(wholeQueue(given), wholeQueue(kept)) {
		t.Fatalf("DueIds changes %.500q to %.500q", fmt.Sprint(kept), fmt.Sprint(given))
	}
}

// dues is a queue of items with these numbers and times, in pairs.
func dues(pairs ...int64) impl.Queue {
	q := queueOf()
	for i := 0; i < len(pairs); i += 2 {
		x := item(int(pairs[i]), i%5)
		x.Due = pairs[i+1]
		q.Items = append(q.Items, x)
	}
	return q
}

func TestWhatIsDue(t *testing.T) {
	mustDue(t, impl.Queue{}, 100)
	q := dues(5, 30, 9, 10, 2, 30, 1, 31)
	mustDue(t, q, 9)
	mustDue(t, q, 10, 9)
	mustDue(t, q, 29, 9)
	mustDue(t, q, 30, 9, 2, 5)
	mustDue(t, q, 31, 9, 2, 5, 1)
	mustDue(t, q, math.MaxInt64, 9, 2, 5, 1)
	mustDue(t, q, math.MinInt64)
	mustDue(t, q, -1)
	mustDue(t, dues(3, 7, 3, 7, 2, 7, 3, 6, 2, 7), 7, 3, 2, 2, 3, 3)
	mustDue(t, dues(3, 0, 1, 0, 2, 0), 0, 1, 2, 3)
	mustDue(t, dues(-1, -5, math.MinInt64, math.MinInt64, math.MaxInt64, math.MaxInt64, 0, 0), math.MinInt64, math.MinInt64)
	mustDue(t, dues(-1, -5, math.MinInt64, -5, math.MaxInt64, math.MaxInt64, math.MaxInt64-1, -5, 0, math.MaxInt64), math.MaxInt64, math.MinInt64, -1, math.MaxInt64-1, 0, math.MaxInt64)
	tried := dues(4, 50)
	tried.Items[0].Msg.Born, tried.Items[0].Tries, tried.Items[0].Bounced = 90, 3, true
	mustDue(t, tried, 50, 4)
	mustDue(t, tried, 49)
}

func TestWhatIsDueInEveryOrder(t *testing.T) {
	r := rand.New(rand.NewSource(67))
	for range 1000 {
		q := queueOf()
		for range r.Intn(45) {
			x := item(r.Intn(12) - 2)
			x.Due = int64(r.Intn(8) - 2)
			q.Items = append(q.Items, x)
		}
		now := int64(r.Intn(10) - 3)
		mustDue(t, q, now, dueByHand(q, now)...)
	}
	for range 300 {
		q := anyQueue(r)
		mustDue(t, q, 10, dueByHand(q, 10)...)
	}
}
