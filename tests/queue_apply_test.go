package tests

import (
	"fmt"
	"math"
	"math/rand"
	"slices"
	"strings"
	"testing"

	"loop.example/s01729/impl"
)

func TestMessagesAreTaken(t *testing.T) {
	for _, n := range []int{0, 1, 2, 28, 29, 30, 31, 35} {
		q := crowd(n)
		for _, id := range []int{1, n, n + 1, n + 2, 500, 999999} {
			r := message(max(id, 1), 3)
			what := fmt.Sprint(n, " items, message ", r.Msg.Id)
			if r.Msg.Id < q.Next || n >= 30 {
				mustRefuse(t, what, q, r)
				continue
			}
			mustTake(t, what, q, r, func(q *impl.Queue) {
				q.Items = append(q.Items, impl.Item{Msg: r.Msg, Verdicts: make([]impl.Verdict, 3), Due: 70})
				q.Next = r.Msg.Id + 1
			})
		}
	}
}

func TestMessagesAndTheNextNumber(t *testing.T) {
	for _, next := range []int{math.MinInt, -5, 0, 1, 6, 7} {
		q := impl.Queue{Items: []impl.Item{item(7, 0)}, Next: next}
		mustTake(t, fmt.Sprint("next ", next), q, message(7, 1), func(q *impl.Queue) {
			q.Items, q.Next = append(q.Items, item(7, 0)), 8
		})
	}
	for _, next := range []int{8, 9, 1000000, math.MaxInt} {
		mustRefuse(t, fmt.Sprint("next ", next), impl.Queue{Items: []impl.Item{item(2, 0)}, Next: next}, message(7, 1))
	}
	early := message(7, 1)
	early.Msg.Born = 0
	mustTake(t, "born at 0", queueOf(), early, func(q *impl.Queue) {
		q.Items, q.Next = []impl.Item{{Msg: early.Msg, Verdicts: make([]impl.Verdict, 1)}}, 8
	})
}

func TestNextNumbers(t *testing.T) {
	for _, now := range []int{math.MinInt, -1, 0, 1, 4, 5, 6, 999999, 1000000, 1000001, math.MaxInt} {
		q := crowd(30)
		q.Next = now
		for _, id := range []int{1, 4, 5, 6, 999999, 1000000} {
			if id < now {
				mustRefuse(t, fmt.Sprint("next ", id, " behind ", now), q, next(id))
				continue
			}
			mustTake(t, fmt.Sprint("next ", id, " behind ", now), q, next(id), func(q *impl.Queue) { q.Next = id })
		}
	}
}

func TestRecordsAboutNoItem(t *testing.T) {
	for _, q := range []impl.Queue{{}, queueOf(), queueOf(item(2, 0)), queueOf(item(4, 1), item(5, 1)), crowd(2)} {
		for _, r := range oneOfEach()[1:5] {
			mustRefuse(t, fmt.Sprint(len(q.Items), " items"), q, r)
		}
	}
	// Numbers that no record may have are no item's, even if there is one.
	for _, id := range []int{0, -1, 1000000} {
		q := impl.Queue{Items: []impl.Item{item(id, 1)}, Next: 1}
		for _, r := range []impl.Record{verdict(id, 0, fine("x")), try(id, 1, 1), bounced(id), drop(id)} {
			mustRefuse(t, fmt.Sprint("number ", id), q, r)
		}
	}
}

func TestRecordsThatAreNotRight(t *testing.T) {
	wrong := []impl.Record{
		{}, {Kind: 7, Id: 1}, {Kind: -1, Id: 1}, message(0, 1), message(1000000, 1), message(4, 0), message(4, 21), verdict(1, 20, fine("x")), verdict(1, -1, fine("x")),
		verdict(1, 0, impl.Verdict{}), verdict(1, 0, impl.Verdict{Kind: 5}), verdict(1, 0, temp(199, "")), verdict(1, 0, temp(600, "")), verdict(1, 0, temp(0, strings.Repeat("x", 513))),
		try(1, -1, 0), try(1, 1000000, 0), try(1, 0, -1), try(1, 0, 20014401), next(0), next(1000001),
	}
	for _, r := range oneOfEach() {
		stray := r
		stray.Tries += 5
		if r.Kind == impl.KTry {
			stray.Rcpt = 5
		}
		wrong = append(wrong, stray)
	}
	for _, q := range []impl.Queue{{}, queueOf(), queueOf(item(1, 0, 0)), crowd(3), crowd(29), crowd(30), {Items: []impl.Item{item(3, 1)}, Next: -5}} {
		for _, r := range wrong {
			mustRefuse(t, "not right", q, r)
		}
	}
}

func TestVerdictsOfEachKind(t *testing.T) {
	for old := -3; old < 9; old++ {
		for kind := 1; kind <= 4; kind++ {
			q := queueOf(item(2, 1, old, 0), item(3, 0, 0, 0))
			what := fmt.Sprint("kind ", kind, " behind ", old)
			r := verdict(2, 1, impl.Verdict{Kind: kind, Code: 599, Text: "new"})
			if old != 0 && old != 2 {
				mustRefuse(t, what, q, r)
				continue
			}
			mustTake(t, what, q, r, func(q *impl.Queue) { q.Items[0].Verdicts[1] = r.V })
		}
	}
}

func TestVerdictsOfEachRecipient(t *testing.T) {
	for n := range 21 {
		q := queueOf(item(1, 0), item(2, make([]int, n)...), item(4, make([]int, 20)...))
		q.Items[1].Msg.Rcpts = addresses(2)
		for rcpt := range 20 {
			what := fmt.Sprint("recipient ", rcpt, " of ", n)
			r := verdict(2, rcpt, perm(550, "no"))
			if rcpt >= n {
				mustRefuse(t, what, q, r)
				continue
			}
			mustTake(t, what, q, r, func(q *impl.Queue) { q.Items[1].Verdicts[rcpt] = r.V })
		}
	}
}

func TestAVerdictMayBeTheSame(t *testing.T) {
	q := queueOf(item(1, 2))
	mustTake(t, "the same again", q, verdict(1, 0, q.Items[0].Verdicts[0]), func(*impl.Queue) {})
	q = queueOf(item(1, 1))
	mustRefuse(t, "the same final one again", q, verdict(1, 0, q.Items[0].Verdicts[0]))
}

func TestTries(t *testing.T) {
	q := queueOf(item(1, 1), item(2, 0, 3), item(3, 2))
	q.Items[1].Tries, q.Items[1].Due = 5, 500
	for _, x := range [][2]int{{0, 0}, {6, 900}, {4, 3}, {5, 500}, {999999, 20014400}, {0, 70}} {
		mustTake(t, fmt.Sprint("try ", x), q, try(2, x[0], int64(x[1])), func(q *impl.Queue) {
			q.Items[1].Tries, q.Items[1].Due = x[0], int64(x[1])
		})
	}
}

func TestBouncedOnce(t *testing.T) {
	for kind := range 5 {
		q := queueOf(item(1, 3), item(2, kind, kind))
		mustTake(t, "bounced", q, bounced(2), func(q *impl.Queue) { q.Items[1].Bounced = true })
		q.Items[1].Bounced = true
		mustRefuse(t, "bounced again", q, bounced(2))
	}
}

func TestDropsWithEachVerdict(t *testing.T) {
	for a := -2; a < 8; a++ {
		for b := -2; b < 8; b++ {
			for at := range 3 {
				items := []impl.Item{item(11, 0), item(12, 1), item(13, 2)}
				items[at] = item(5, a, 3, b)
				q := impl.Queue{Items: items, Next: 14}
				what := fmt.Sprint("drop with kinds ", a, " and ", b)
				if a == 0 || a == 2 || b == 0 || b == 2 {
					mustRefuse(t, what, q, drop(5))
					continue
				}
				mustTake(t, what, q, drop(5), func(q *impl.Queue) { q.Items = slices.Delete(q.Items, at, at+1) })
			}
		}
	}
	mustTake(t, "drop without verdicts", queueOf(item(5)), drop(5), func(q *impl.Queue) { q.Items = nil })
	for n := range 20 {
		kinds := slices.Repeat([]int{1}, 20)
		kinds[n] = 2
		mustRefuse(t, fmt.Sprint("recipient ", n, " pending"), queueOf(item(5, kinds...)), drop(5))
	}
}

func TestTwoItemsOfOneNumber(t *testing.T) {
	for _, kind := range []int{0, 1, 2, 3} {
		first, second := item(5, kind), item(5, 2-kind%3)
		q := impl.Queue{Items: []impl.Item{item(4, 0), first, item(6, 1), second}, Next: 7}
		for _, r := range []impl.Record{verdict(5, 0, fine("x")), try(5, 3, 4), bounced(5), drop(5), message(5, 1), message(7, 1)} {
			mustApplyByHand(t, "two of one number", q, r)
			q.Items[1].Bounced = true
			mustApplyByHand(t, "two of one number, one bounced", q, r)
			q.Items[1].Bounced = false
		}
	}
	twice := impl.Queue{Items: []impl.Item{item(5, 1), item(5, 3)}, Next: 6}
	mustTake(t, "the first is dropped", twice, drop(5), func(q *impl.Queue) { q.Items = q.Items[1:] })
	waits := impl.Queue{Items: []impl.Item{item(5, 0), item(5, 3)}, Next: 6}
	mustRefuse(t, "the first is pending", waits, drop(5))
	twice.Items[0].Bounced = true
	mustRefuse(t, "the first is bounced", twice, bounced(5))
}

func TestQueuesThatShareLists(t *testing.T) {
	one := item(5, 0, 0)
	q := impl.Queue{Items: []impl.Item{one, one, one}, Next: 6}
	for _, r := range append(oneOfEach(), verdict(5, 1, fine("x")), try(5, 1, 1), bounced(5), message(6, 2), next(9)) {
		want, ok := applyByHand(q, r)
		got, taken := impl.Apply(q, r)
		if taken != ok || !same(got, want) {
			t.Fatalf("Apply of %v: %t %v, not %t %v", r, taken, got, ok, want)
		}
		if !scribbleQueue(got) {
			t.Fatalf("Apply of %v answers lists that share memory", r)
		}
		if !same(one, item(5, 0, 0)) {
			t.Fatalf("Apply of %v shares memory with its argument: %v", r, one)
		}
	}
}

func TestRandomRecordsOnAnyQueue(t *testing.T) {
	r := rand.New(rand.NewSource(63))
	for range 1500 {
		q := anyQueue(r)
		for range 4 {
			mustApplyByHand(t, "any queue", q, randomRecord(r))
		}
	}
}

func TestAQueueThroughManyRecords(t *testing.T) {
	r := rand.New(rand.NewSource(64))
	for range 60 {
		q := queueOf()
		for range 60 {
			record := randomRecord(r)
			if r.Intn(4) == 0 && record.Kind == impl.KMessage {
				record.Msg.Id = q.Next
			}
			q = mustApplyByHand(t, "a queue in the making", q, record)
		}
	}
}
