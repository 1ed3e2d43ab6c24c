package tests

import (
	"fmt"
	"math"
	"math/rand"
	"slices"
	"testing"

	"loop.example/s01729/impl"
)

func replayByHand(records []string) impl.Queue {
	q := impl.Queue{Next: 1}
	for _, s := range records {
		if r, ok := unpackByHand(s); ok {
			q, _ = applyByHand(q, r)
		}
	}
	return q
}

// snapshotByHand is the document's list of records, each asked whether it is right.
func snapshotByHand(q impl.Queue) []string {
	var records []impl.Record
	for _, x := range q.Items {
		id := x.Msg.Id
		records = append(records, impl.Record{Kind: 1, Msg: x.Msg})
		for i, v := range x.Verdicts {
			if v.Kind != 0 {
				records = append(records, verdict(id, i, v))
			}
		}
		if x.Tries != 0 || x.Due != x.Msg.Born {
			records = append(records, try(id, x.Tries, x.Due))
		}
		if x.Bounced {
			records = append(records, bounced(id))
		}
	}
	var texts []string
	for _, r := range append(records, next(q.Next)) {
		if recordByHand(r) {
			texts = append(texts, packByHand(r))
		}
	}
	return texts
}

func mustReplay(t *testing.T, what string, records []string, want impl.Queue) {
	t.Helper()
	given, kept := roomy(records), roomy(records)
	got := impl.Replay(given)
	if !same(got, want) {
		t.Fatalf("%s: Replay of %.500q:\n%.500q, not\n%.500q", what, records, fmt.Sprint(got), fmt.Sprint(want))
	}
	if !slices.Equal(whole(given), whole(kept)) {
		t.Fatalf("%s: Replay changes %.500q to %.500q", what, whole(kept), whole(given))
	}
	if !scribbleQueue(got) {
		t.Fatalf("%s: Replay of %.500q answers lists that share memory", what, records)
	}
}

func mustSnapshot(t *testing.T, what string, q impl.Queue, want []string) {
	t.Helper()
	given, kept := roomyQueue(q), roomyQueue(q)
	got := impl.Snapshot(given)
	if !slices.Equal(got, want) {
		t.Fatalf("%s: Snapshot of %.500q:\n%.700q, not\n%.700q", what, fmt.Sprint(q), got, want)
	}
	if !same(wholeQueue(given), wholeQueue(kept)) {
		t.Fatalf("%s: Snapshot changes %.500q to %.500q", what, fmt.Sprint(kept), fmt.Sprint(given))
	}
}

// mustComeBack holds the promise: the snapshot of a queue that Replay made makes it.
func mustComeBack(t *testing.T, what string, records []string) {
	t.Helper()
	q := replayByHand(records)
	mustReplay(t, what, records, q)
	mustSnapshot(t, what, q, snapshotByHand(q))
	mustReplay(t, what+", its snapshot", impl.Snapshot(q), q)
	mustReplay(t, what+", its snapshot twice", append(impl.Snapshot(q), impl.Snapshot(q)...), q)
}

func TestReplayOfNothing(t *testing.T) {
	for _, records := range [][]string{nil, {}, {""}, {"", "x", "N 0", "B 1", "M"}} {
		mustReplay(t, "nothing", records, impl.Queue{Next: 1})
		mustComeBack(t, "nothing", records)
	}
	mustSnapshot(t, "nothing", impl.Queue{Next: 1}, []string{"N 1"})
}

func TestReplayLeavesOutWhatIsRefused(t *testing.T) {
	records := []string{
		"V 3 0 1 250 2:ok", "M 3 70 2 3:a@b 3:c@d 3:e@f 2:\r\n", "M 3 80 1 3:a@b 3:c@d 0:", "M 2 80 1 3:a@b 3:c@d 0:", "M 03 1 1 0: 3:a@b 0:",
		"V 3 0 2 451 5:later", "V 3 0 1 250 2:ok", "V 3 0 3 550 2:no", "V 3 1 2 0 7:timeout", "V 3 2 1 250 2:ok", "V 3 1 9 250 2:ok",
		"D 3", "T 3 1 130", "T 3 1", "B 3", "B 3", "N 2", "M 7 90 1 0: 3:x@y 0:", "D 8", "V 7 0 1 250 0:", "D 7", "D 7", "T 7 1 1", "N 9",
	}
	x := impl.Item{
		Msg:      impl.Message{Id: 3, Born: 70, From: "a@b", Rcpts: []string{"c@d", "e@f"}, Body: "\r\n"},
		Verdicts: []impl.Verdict{{Kind: 1, Code: 250, Text: "ok"}, {Kind: 2, Text: "timeout"}},
		Tries:    1, Due: 130, Bounced: true,
	}
	want := impl.Queue{Items: []impl.Item{x}, Next: 9}
	mustReplay(t, "some are refused", records, want)
	mustSnapshot(t, "some are refused", want, []string{"M 3 70 2 3:a@b 3:c@d 3:e@f 2:\r\n", "V 3 0 1 250 2:ok", "V 3 1 2 0 7:timeout", "T 3 1 130", "B 3", "N 9"})
	mustComeBack(t, "some are refused", records)
	for i := range records {
		mustComeBack(t, "a front", records[:i])
		mustComeBack(t, "an end", records[i:])
		mustComeBack(t, "one left out", slices.Delete(slices.Clone(records), i, i+1))
		mustComeBack(t, "one twice", slices.Insert(slices.Clone(records), i, records[i]))
	}
}

func TestReplayFillsTheQueue(t *testing.T) {
	var records []string
	for i := range 40 {
		records = append(records, packByHand(message(i*3+1, 1)))
		mustComeBack(t, fmt.Sprint(i+1, " messages"), records)
	}
	if n := len(impl.Replay(records).Items); n != 30 {
		t.Fatalf("%d items of 40 messages", n)
	}
	records = append(records, "V 1 0 1 250 0:", "D 1", packByHand(message(999999, 1)), packByHand(message(999999, 1)))
	mustComeBack(t, "one dropped, the last number", records)
	if q := impl.Replay(records); q.Next != 1000000 || len(q.Items) != 30 || q.Items[29].Msg.Id != 999999 {
		t.Fatalf("next %d, %d items", q.Next, len(q.Items))
	}
}

func TestSnapshotLeavesOutWhatGoesWithoutSaying(t *testing.T) {
	m := packByHand(message(4, 2))
	for _, x := range []struct {
		tries   int
		due     int64
		bounced bool
		want    []string
	}{
		{0, 70, false, nil}, {1, 70, false, []string{"T 4 1 70"}}, {0, 71, false, []string{"T 4 0 71"}}, {0, 69, true, []string{"T 4 0 69", "B 4"}},
		{0, 0, false, []string{"T 4 0 0"}}, {0, 70, true, []string{"B 4"}}, {999999, 20014400, true, []string{"T 4 999999 20014400", "B 4"}},
	} {
		q := queueOf(item(4, 0, 2))
		q.Items[0].Tries, q.Items[0].Due, q.Items[0].Bounced = x.tries, x.due, x.bounced
		want := append([]string{m, "V 4 1 2 201 6:said 1"}, append(slices.Clone(x.want), "N 5")...)
		mustSnapshot(t, "an item", q, want)
		mustComeBack(t, "an item", want)
	}
}

func TestSnapshotOfQueuesThatNoRecordsMake(t *testing.T) {
	q := queueOf(item(4, 0, 2))
	change := func(what string, change func(q *impl.Queue), want ...string) {
		t.Helper()
		other := roomyQueue(q)
		change(&other)
		mustSnapshot(t, what, other, want)
	}
	m, v := packByHand(message(4, 2)), "V 4 1 2 201 6:said 1"
	change("as it is", func(q *impl.Queue) {}, m, v, "N 5")
	change("next 0", func(q *impl.Queue) { q.Next = 0 }, m, v)
	change("next below 0", func(q *impl.Queue) { q.Next = math.MinInt }, m, v)
	change("the greatest next", func(q *impl.Queue) { q.Next = 1000000 }, m, v, "N 1000000")
	change("next too great", func(q *impl.Queue) { q.Next = 1000001 }, m, v)
	change("no number", func(q *impl.Queue) { q.Items[0].Msg.Id = 0 }, "N 5")
	change("too great a number", func(q *impl.Queue) { q.Items[0].Msg.Id, q.Items[0].Bounced = 1000000, true }, "N 5")
	change("a wrong sender", func(q *impl.Queue) { q.Items[0].Msg.From = "x" }, v, "N 5")
	change("no recipients", func(q *impl.Queue) { q.Items[0].Msg.Rcpts = nil }, v, "N 5")
	change("a wrong body", func(q *impl.Queue) { q.Items[0].Msg.Body = "x" }, v, "N 5")
	change("born too late", func(q *impl.Queue) { q.Items[0].Msg.Born = 20000001 }, v, "T 4 0 70", "N 5")
	change("tries below 0", func(q *impl.Queue) { q.Items[0].Tries = -1 }, m, v, "N 5")
	change("too many tries", func(q *impl.Queue) { q.Items[0].Tries = 1000000 }, m, v, "N 5")
	change("due too late", func(q *impl.Queue) { q.Items[0].Due = 20014401 }, m, v, "N 5")
	change("due below 0", func(q *impl.Queue) { q.Items[0].Due, q.Items[0].Bounced = -1, true }, m, v, "B 4", "N 5")
	change("wrong verdicts", func(q *impl.Queue) {
		q.Items[0].Verdicts = []impl.Verdict{{Kind: 5}, {Kind: -1}, {Kind: 0, Code: 250, Text: "x"}, {Kind: 1, Code: 100}, {Kind: 4, Code: 599}, {Kind: 3, Text: string(make([]byte, 513))}}
	}, m, "V 4 4 4 599 0:", "N 5")
	change("25 verdicts", func(q *impl.Queue) {
		q.Items[0].Verdicts = append(make([]impl.Verdict, 18), make([]impl.Verdict, 7)...)
	}, m, "N 5")
	change("verdicts beyond the recipients", func(q *impl.Queue) {
		q.Items[0].Verdicts = slices.Repeat([]impl.Verdict{{}, {Kind: 1}}, 12)
	}, m, "V 4 1 1 0 0:", "V 4 3 1 0 0:", "V 4 5 1 0 0:", "V 4 7 1 0 0:", "V 4 9 1 0 0:", "V 4 11 1 0 0:", "V 4 13 1 0 0:", "V 4 15 1 0 0:", "V 4 17 1 0 0:", "V 4 19 1 0 0:", "N 5")
	change("two of one number", func(q *impl.Queue) { q.Items = append(q.Items, q.Items[0]) }, m, v, m, v, "N 5")
	change("nothing", func(q *impl.Queue) { *q = impl.Queue{} })
	r := rand.New(rand.NewSource(65))
	for range 1000 {
		any := anyQueue(r)
		mustSnapshot(t, "any queue", any, snapshotByHand(any))
	}
}

func TestRandomQueuesComeBack(t *testing.T) {
	r := rand.New(rand.NewSource(66))
	for range 400 {
		var records []string
		for range r.Intn(60) {
			record := randomRecord(r)
			if record.Kind == impl.KMessage {
				record.Msg.Id = 1 + r.Intn(3+len(records)/5)
			}
			records = append(records, packByHand(record))
			if r.Intn(8) == 0 {
				records = append(records, pick(r, "", "junk", "B 01", "M 1", " N 3", "T 1 1 1 ", "V 1 0 0 0 0:"))
			}
		}
		mustComeBack(t, "random records", records)
	}
}
