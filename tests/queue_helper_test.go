package tests

import (
	"fmt"
	"math"
	"math/rand"
	"slices"
	"testing"

	"loop.example/s01729/impl"
)

// roomyQueue is a copy of a queue with room behind each of its lists.
func roomyQueue(q impl.Queue) impl.Queue {
	q.Items = roomy(q.Items)
	for i := range q.Items {
		q.Items[i].Msg.Rcpts, q.Items[i].Verdicts = roomy(q.Items[i].Msg.Rcpts), roomy(q.Items[i].Verdicts)
	}
	return q
}

// wholeQueue is a queue with the room behind each of its lists.
func wholeQueue(q impl.Queue) impl.Queue {
	q.Items = append([]impl.Item(nil), whole(q.Items)...)
	for i := range q.Items {
		q.Items[i].Msg.Rcpts, q.Items[i].Verdicts = whole(q.Items[i].Msg.Rcpts), whole(q.Items[i].Verdicts)
	}
	return q
}

// scribbleQueue writes another number to each element of each list of a queue, as far
// as its memory goes, and tells whether each has kept its own.
func scribbleQueue(q impl.Queue) bool {
	n := 0
	var kept []func() bool
	for i := range whole(q.Items) {
		item := &whole(q.Items)[i]
		for j := range whole(item.Msg.Rcpts) {
			place, mine := &whole(item.Msg.Rcpts)[j], fmt.Sprint("scribble ", n)
			*place, n = mine, n+1
			kept = append(kept, func() bool { return *place == mine })
		}
		for j := range whole(item.Verdicts) {
			place, mine := &whole(item.Verdicts)[j], 1000+n
			place.Kind, n = mine, n+1
			kept = append(kept, func() bool { return place.Kind == mine })
		}
		item.Tries = -7
	}
	for _, k := range kept {
		if !k() {
			return false
		}
	}
	return true
}

func pendingByHand(v impl.Verdict) bool {
	return v.Kind == 0 || v.Kind == 2
}

// applyByHand is the document's list of what a record does to a queue.
func applyByHand(q impl.Queue, r impl.Record) (impl.Queue, bool) {
	before, after := q, roomyQueue(q)
	at := -1
	for i := len(q.Items) - 1; i >= 0; i-- {
		if q.Items[i].Msg.Id == r.Id {
			at = i
		}
	}
	if !recordByHand(r) || r.Kind != 1 && r.Kind != 6 && at < 0 {
		return before, false
	}
	switch r.Kind {
	case 1:
		item := impl.Item{Msg: r.Msg, Verdicts: make([]impl.Verdict, len(r.Msg.Rcpts)), Due: r.Msg.Born}
		after.Items, after.Next = append(after.Items, item), r.Msg.Id+1
		return choose(r.Msg.Id >= q.Next && len(q.Items) < 30, after, before)
	case 2:
		verdicts := after.Items[at].Verdicts
		if r.Rcpt >= len(verdicts) || !pendingByHand(verdicts[r.Rcpt]) {
			return before, false
		}
		verdicts[r.Rcpt] = r.V
	case 3:
		after.Items[at].Tries, after.Items[at].Due = r.Tries, r.Due
	case 4:
		after.Items[at].Bounced = true
		return choose(!q.Items[at].Bounced, after, before)
	case 5:
		after.Items = append(after.Items[:at], after.Items[at+1:]...)
		return choose(!slices.ContainsFunc(q.Items[at].Verdicts, pendingByHand), after, before)
	case 6:
		after.Next = r.Id
		return choose(r.Id >= q.Next, after, before)
	}
	return after, true
}

func choose(taken bool, after, before impl.Queue) (impl.Queue, bool) {
	if taken {
		return after, true
	}
	return before, false
}

// mustApply applies a record, holds the answer against the one that is wanted, and
// sees to it that queue and record are as they were and that nothing is shared.
func mustApply(t *testing.T, what string, q impl.Queue, r impl.Record, want impl.Queue, ok bool) impl.Queue {
	t.Helper()
	given, kept, record, wasRecord := roomyQueue(q), roomyQueue(q), roomyRecord(r), roomyRecord(r)
	got, taken := impl.Apply(given, record)
	if taken != ok || !same(got, want) {
		t.Fatalf("%s: Apply to %.500q\nof %.300q:\n%t %.500q, not\n%t %.500q", what, fmt.Sprint(q), fmt.Sprint(r), taken, fmt.Sprint(got), ok, fmt.Sprint(want))
	}
	answer := roomyQueue(got)
	apart := scribbleQueue(got)
	if !apart || !same(wholeQueue(given), wholeQueue(kept)) {
		t.Fatalf("%s: Apply to %.500q of %.300q shares memory or changes its argument: %.500q", what, fmt.Sprint(kept), fmt.Sprint(r), fmt.Sprint(given))
	}
	record.Msg.Rcpts, wasRecord.Msg.Rcpts = whole(record.Msg.Rcpts), whole(wasRecord.Msg.Rcpts)
	if !same(record, wasRecord) {
		t.Fatalf("%s: Apply changes %.300q to %.300q", what, fmt.Sprint(wasRecord), fmt.Sprint(record))
	}
	mustKeepPromise(t, what, q, answer)
	return answer
}

func mustApplyByHand(t *testing.T, what string, q impl.Queue, r impl.Record) impl.Queue {
	t.Helper()
	want, ok := applyByHand(q, r)
	return mustApply(t, what, q, r, want, ok)
}

// mustRefuse applies a record that changes nothing.
func mustRefuse(t *testing.T, what string, q impl.Queue, r impl.Record) {
	t.Helper()
	mustApply(t, what, q, r, q, false)
	if _, ok := applyByHand(q, r); ok {
		t.Fatalf("%s: the test's own Apply takes %v", what, r)
	}
}

// mustTake applies a record that makes the queue that change makes of it.
func mustTake(t *testing.T, what string, q impl.Queue, r impl.Record, change func(q *impl.Queue)) {
	t.Helper()
	want := roomyQueue(q)
	change(&want)
	mustApply(t, what, q, r, want, true)
	if _, ok := applyByHand(q, r); !ok {
		t.Fatalf("%s: the test's own Apply refuses %v", what, r)
	}
}

// mustKeepPromise looks only at the promise: an item that is there no more had no
// pending verdict, and those that stay have the final ones that they had.
func mustKeepPromise(t *testing.T, what string, before, after impl.Queue) {
	t.Helper()
	stay := before.Items
	if len(stay) > len(after.Items) {
		at := 0
		for at < len(after.Items) && same(stay[at], after.Items[at]) {
			at++
		}
		if slices.ContainsFunc(stay[at].Verdicts, pendingByHand) {
			t.Fatalf("%s: message %d was dropped with %v", what, stay[at].Msg.Id, stay[at].Verdicts)
		}
		stay = slices.Delete(slices.Clone(stay), at, at+1)
	}
	for i, x := range stay {
		for j, v := range x.Verdicts {
			if now := after.Items[i].Verdicts[j]; !pendingByHand(v) && now != v {
				t.Fatalf("%s: message %d had the verdict %v and has %v", what, x.Msg.Id, v, now)
			}
		}
	}
}

// item is an item as records make it, with one verdict of each kind that is named.
func item(id int, kinds ...int) impl.Item {
	x := impl.Item{Msg: message(id, len(kinds)).Msg, Due: 70}
	for i, kind := range kinds {
		v := impl.Verdict{}
		if kind != 0 {
			v = impl.Verdict{Kind: kind, Code: 200 + i, Text: fmt.Sprint("said ", i)}
		}
		x.Verdicts = append(x.Verdicts, v)
	}
	return x
}

// queueOf is a queue of these items as records make it.
func queueOf(items ...impl.Item) impl.Queue {
	q := impl.Queue{Items: items, Next: 1}
	for _, x := range items {
		q.Next = max(q.Next, x.Msg.Id+1)
	}
	return q
}

// crowd is a queue of n items.
func crowd(n int) impl.Queue {
	q := impl.Queue{Next: 1}
	for i := range n {
		q.Items = append(q.Items, item(i+1, 1+i%4))
		q.Next = i + 2
	}
	return q
}

// anyQueue is a queue whose fields may hold anything.
func anyQueue(r *rand.Rand) impl.Queue {
	numbers := []int{0, 1, 2, 3, 4, 5, 6, -1, 1000000, math.MinInt, math.MaxInt}
	q := impl.Queue{Next: pick(r, numbers...)}
	for range pick(r, 0, 1, 2, 3, 5, 29, 30, 31, 40) {
		x := item(pick(r, numbers...))
		x.Msg.Rcpts = addresses(r.Intn(4))
		x.Msg.Body = pick(r, "", "x\r\n", "wrong")
		x.Msg.From = pick(r, "", "a@b", "wrong")
		x.Msg.Born, x.Due = pick(r, int64(-1), 0, 10, 20000001), pick(r, int64(-1), 0, 10, 20014400, 20014401)
		x.Tries, x.Bounced = pick(r, -1, 0, 0, 1, 1000000), r.Intn(2) == 0
		for range r.Intn(4) {
			x.Verdicts = append(x.Verdicts, impl.Verdict{Kind: r.Intn(8) - 2, Code: pick(r, 0, 100, 250, 600), Text: pick(r, "", "x", string(make([]byte, 513)))})
		}
		q.Items = append(q.Items, x)
	}
	return q
}
