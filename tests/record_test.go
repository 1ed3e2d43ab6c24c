package tests

import (
	"fmt"
	"math"
	"math/rand"
	"slices"
	"strings"
	"testing"

	"loop.example/s01729/impl"
)

func TestQueueNumbers(t *testing.T) {
	got := []int{
		impl.KMessage, impl.KVerdict, impl.KTry, impl.KBounce, impl.KDrop, impl.KNext,
		impl.MaxQueue, impl.MaxId, impl.MaxTries, impl.MaxClock, impl.BaseDelay, impl.MaxDelay, impl.Life,
	}
	if want := []int{1, 2, 3, 4, 5, 6, 30, 999999, 999999, 20000000, 60, 14400, 432000}; !slices.Equal(got, want) {
		t.Fatalf("kinds and limits are %v, not %v", got, want)
	}
}

func TestRecordsAsTheyAreWritten(t *testing.T) {
	for _, x := range []struct {
		r    impl.Record
		text string
	}{
		{impl.Record{Kind: 1, Msg: impl.Message{Id: 12, Born: 0, Rcpts: []string{"a@b"}}}, "M 12 0 1 0: 3:a@b 0:"},
		{impl.Record{Kind: 1, Msg: impl.Message{Id: 1, Born: 7, From: "c@d", Rcpts: []string{"a@b", "e.f@g"}, Body: "1:2 \r\n"}}, "M 1 7 2 3:c@d 3:a@b 5:e.f@g 6:1:2 \r\n"},
		{verdict(9, 0, temp(0, "")), "V 9 0 2 0 0:"},
		{verdict(9, 19, impl.Verdict{Kind: 4, Code: 451, Text: " 1:\xff "}), "V 9 19 4 451 5: 1:\xff "},
		{verdict(9, 2, fine("ok")), "V 9 2 1 250 2:ok"},
		{try(9, 0, 0), "T 9 0 0"},
		{try(9, 999999, 20014400), "T 9 999999 20014400"},
		{bounced(10), "B 10"}, {drop(10), "D 10"}, {next(10), "N 10"}, {next(1000000), "N 1000000"},
	} {
		if packByHand(x.r) != x.text {
			t.Fatalf("the test's own text of %v is %q", x.r, packByHand(x.r))
		}
		mustPack(t, "as written", x.r, true)
	}
}

func TestKindsOfRecords(t *testing.T) {
	for _, r := range oneOfEach() {
		for kind := -3; kind < 12; kind++ {
			other := r
			other.Kind = kind
			// A number alone makes a record of four kinds.
			right := kind == r.Kind || r.Kind > 3 && within(kind, 3, 6)
			mustPack(t, fmt.Sprint("kind ", r.Kind, " as ", kind), other, right)
		}
		for _, kind := range []int{math.MinInt, math.MaxInt, 257, 1 << 32, -1 << 32} {
			other := r
			other.Kind += kind
			mustPack(t, fmt.Sprint("kind ", other.Kind), other, false)
		}
	}
	mustPack(t, "nothing", impl.Record{}, false)
}

func TestFieldsOfOtherKinds(t *testing.T) {
	for _, r := range oneOfEach() {
		stray := func(what string, own bool, change func(r *impl.Record)) {
			other := r
			change(&other)
			mustPack(t, fmt.Sprint("kind ", r.Kind, " with ", what), other, own)
		}
		msg, one := r.Kind == 1, r.Kind == 2
		stray("Msg.Id", msg, func(r *impl.Record) { r.Msg.Id = 5 })
		stray("Msg.Born", msg, func(r *impl.Record) { r.Msg.Born = 5 })
		stray("Msg.From", msg, func(r *impl.Record) { r.Msg.From = "x@y" })
		stray("Msg.Rcpts", msg, func(r *impl.Record) { r.Msg.Rcpts = []string{"x@y"} })
		stray("empty Msg.Rcpts", false, func(r *impl.Record) { r.Msg.Rcpts = []string{""} })
		stray("Msg.Rcpts without elements", !msg, func(r *impl.Record) { r.Msg.Rcpts = []string{} })
		stray("Msg.Body", msg, func(r *impl.Record) { r.Msg.Body = "z\r\n" })
		stray("Id", !msg, func(r *impl.Record) { r.Id = 5 })
		stray("Rcpt", one, func(r *impl.Record) { r.Rcpt = 5 })
		stray("V", one, func(r *impl.Record) { r.V = fine("x") })
		stray("V.Kind", one, func(r *impl.Record) { r.V.Kind = 1 })
		stray("V.Code", one, func(r *impl.Record) { r.V.Code = 250 })
		stray("V.Text", one, func(r *impl.Record) { r.V.Text = "x" })
		stray("Tries", r.Kind == 3, func(r *impl.Record) { r.Tries = 5 })
		stray("Due", r.Kind == 3, func(r *impl.Record) { r.Due = 5 })
	}
}

func TestNumbersOfMessagesInRecords(t *testing.T) {
	for _, id := range []int{1, 2, 9, 10, 999998, 999999, 1000000, 1000001, 0, -1, -999999, 9999990, math.MinInt, math.MaxInt, 1<<32 + 5} {
		for _, r := range oneOfEach() {
			if r.Kind == 1 {
				r.Msg.Id = id
			} else {
				r.Id = id
			}
			mustPack(t, fmt.Sprint("kind ", r.Kind, ", number ", id), r, within(id, 1, 999999) || r.Kind == 6 && id == 1000000)
		}
	}
}

func TestFieldsOfMessages(t *testing.T) {
	judge := func(what string, right bool, change func(m *impl.Message)) {
		t.Helper()
		r := message(7, 3)
		change(&r.Msg)
		mustPack(t, what, r, right)
	}
	for _, born := range []int64{0, 1, 19999999, 20000000, 20000001, 20014400, -1, math.MinInt64, math.MaxInt64} {
		judge(fmt.Sprint("born ", born), within(born, 0, 20000000), func(m *impl.Message) { m.Born = born })
	}
	long := strings.Repeat("l", 59) + "@" + domainOf(100)
	for _, s := range []string{"", "a@b", long, "l" + long, "a", "@", "a@b@c", "A@b", "a@b ", "a@b\r\n", "3:a@b"} {
		right := s == "a@b" || s == long
		judge(fmt.Sprintf("from %q", s), right || s == "", func(m *impl.Message) { m.From = s })
		for i := range 3 {
			judge(fmt.Sprintf("recipient %d %q", i, s), right, func(m *impl.Message) { m.Rcpts[i] = s })
		}
	}
	for n := range 45 {
		judge(fmt.Sprint(n, " recipients"), within(n, 1, 20), func(m *impl.Message) { m.Rcpts = addresses(n) })
	}
	for _, body := range []string{"", "\r\n", "x\r\n", " \r\n", "5:\r\n", "\xff\r\n", bodyOf(2999), bodyOf(3000), bodyOf(3001), "x", "x\n", "\x00\r\n", strings.Repeat("x", 999) + "\r\n"} {
		judge(fmt.Sprintf("body %.80q", body), bodyByHand(body), func(m *impl.Message) { m.Body = body })
	}
	judge("the longest", true, func(m *impl.Message) {
		*m = impl.Message{Id: 999999, Born: 20000000, From: long, Rcpts: slices.Repeat([]string{long}, 20), Body: bodyOf(3000)}
	})
}

func TestFieldsOfVerdicts(t *testing.T) {
	for _, rcpt := range []int{0, 1, 9, 10, 19, 20, 21, 100, -1, -19, math.MinInt, math.MaxInt} {
		mustPack(t, fmt.Sprint("recipient ", rcpt), verdict(7, rcpt, fine("x")), within(rcpt, 0, 19))
	}
	for _, kind := range []int{0, 1, 2, 3, 4, 5, -1, 14, math.MinInt, math.MaxInt} {
		mustPack(t, fmt.Sprint("kind ", kind), verdict(7, 0, impl.Verdict{Kind: kind, Code: 250, Text: "x"}), within(kind, 1, 4))
	}
	for _, code := range []int{0, 1, 199, 200, 201, 499, 598, 599, 600, 5500, -1, -200, math.MinInt, math.MaxInt} {
		mustPack(t, fmt.Sprint("code ", code), verdict(7, 0, temp(code, "x")), code == 0 || within(code, 200, 599))
	}
	for _, n := range []int{0, 1, 9, 10, 99, 100, 510, 511, 512, 513, 514, 1000, 9000} {
		mustPack(t, fmt.Sprint("text of ", n), verdict(7, 0, temp(451, strings.Repeat("x", n))), n <= 512)
	}
	for _, text := range []string{" ", ":", "1:x", " 1:x", "\r\n", "\n", "\x00", "\xff", "V 3 1 3 550 0:", allBytes()} {
		mustPack(t, fmt.Sprintf("text %.20q", text), verdict(7, 0, temp(451, text)), true)
	}
}

func TestFieldsOfTries(t *testing.T) {
	for _, tries := range []int{0, 1, 9, 10, 999998, 999999, 1000000, -1, math.MinInt, math.MaxInt} {
		mustPack(t, fmt.Sprint("tries ", tries), try(7, tries, 100), within(tries, 0, 999999))
	}
	for _, due := range []int64{0, 1, 9, 10, 20000000, 20000001, 20014399, 20014400, 20014401, 200144000, -1, math.MinInt64, math.MaxInt64} {
		mustPack(t, fmt.Sprint("due ", due), try(7, 1, due), within(due, 0, 20014400))
	}
}

func TestTextsThatNearlyAreRecords(t *testing.T) {
	for _, s := range []string{
		"", " ", "B", "B ", " B 3", "B  3", "B 3 ", "B 3 4", "B 3\n", "B\t3", "b 3", "BB 3", "B3", "B:3", "X 3", "M 3", "V 3", "T 3", "T 3 2", "N", "N 0", "D x",
		"T 3 2 190 ", "T 3 2 190 0", "T  3 2 190", "T 3  2 190", "T 3 2  190", "T 3 2 ", "T 3  190", "T 2 190",
		"V 3 1 3 550 3:ab", "V 3 1 3 550 3:abcd", "V 3 1 3 550 3:abc ", "V 3 1 3 550 3: abc", "V 3 1 3 550 :abc", "V 3 1 3 550 abc", "V 3 1 3 550 3abc", "V 3 1 3 550 3 abc",
		"V 3 1 3 550 03:abc", "V 3 1 3 550 +3:abc", "V 3 1 3 550 -3:abc", "V 3 1 3 550 3::abc", "V 3 1 3 550 0:abc", "V 3 1 3 550", "V 3 1 3 550 ", "V 3 1 3 550 0", "V 3 1 3 0:",
		"V 3 1 3 550 513:" + strings.Repeat("x", 513), "V 3 1 3 550 999999999999999999999:x", "V 3 1 3 550 4294967299:abc", "V 3 1 3 550 18446744073709551619:abc", "V 3 1 3 550 18446744073709551615:abc",
		"V 3 1 3 550 9223372036854775808:abc", "V 3 1 3 550 9223372036854775807:abc", "V 3 1 3 550 2147483648:abc", "V 3 1 3 550 4294967295:abc", "V 3 1 3 550 999999999:abc",
		"M 3 70 2 0: 3:a@b 0:", "M 3 70 1 0: 3:a@b 3:c@d 0:", "M 3 70 0 0: 0:", "M 3 70 0 0: 3:a@b 0:", "M 3 70 1 0:  3:a@b 0:", "M 3 70 1 0:3:a@b 0:", "M 3 70 1 0: 3:a@b0:",
		"M 3 70 1 0: 3:a@b", "M 3 70 1 0: 3:a@b ", "M 3 70 1 0: 3:a@b 0: ", "M 3 70 1 0: 3:a@b 0:x", "M 3 70 1 0: 3:a@b 1:x", "M 3 70 1 0: 3:a@b 3:x\r\n\r\n", "M 3 70 1 0: 3:a@b 2:x\r\n",
		"M 3 70 1 0: 3:a@b 4:x\r\n", "M 3 70 01 0: 3:a@b 0:", "M 3 70 1 00: 3:a@b 0:", "M 3 70 999999999 0: 3:a@b 0:", "M 3 70 99999999999999999999 0: 3:a@b 0:", "M 3 70 -1 0: 3:a@b 0:",
		"M 3 70 4294967297 0: 3:a@b 0:", "M 3 1 0: 3:a@b 0:", "M 3 70 1 3:a@b 0:", "M 3 70 21 0:" + strings.Repeat(" 3:a@b", 21) + " 0:", "M 3 70 21 0:" + strings.Repeat(" 3:a@b", 20) + " 0:",
		"M 3 70 20 0:" + strings.Repeat(" 3:a@b", 21) + " 0:", strings.Repeat("9", 100000), "N " + strings.Repeat("9", 100000), "M 1 1 " + strings.Repeat("9", 9) + " 0:" + strings.Repeat(" 0:", 50000),
	} {
		mustUnpack(t, "nearly a record", s, impl.Record{}, false)
	}
	mustUnpackByHand(t, "twenty recipients", "M 3 70 20 0:"+strings.Repeat(" 3:a@b", 20)+" 0:")
}

func TestNumbersWrittenInOtherWays(t *testing.T) {
	odd := []string{"", "0", "00", "01", "003", "+3", "-3", "-0", "+0", "3.0", "3e0", "0x3", "3 ", " 3", "3\n", "٣", "1_0", "4294967299", "18446744073709551619", "9223372036854775807", "1000000000", strings.Repeat("0", 30) + "3", "999999", "1000000", "1000001", "20000000", "20000001", "20014400", "20014401", "100000000", "19", "20", "5", "250", "600"}
	for _, parts := range [][]string{{"B", "3"}, {"D", "3"}, {"N", "3"}, {"T", "3", "2", "190"}, {"V", "3", "1", "3", "550", "0:"}, {"M", "3", "70", "1", "0:", "3:a@b", "0:"}} {
		mustUnpackByHand(t, "as it should be", strings.Join(parts, " "))
		for i := range parts {
			for _, number := range odd {
				changed := slices.Clone(parts)
				changed[i] = number
				mustUnpackByHand(t, "an odd number", strings.Join(changed, " "))
				changed[i] = number + ":"
				mustUnpackByHand(t, "an odd length", strings.Join(changed, " "))
			}
			mustUnpackByHand(t, "a part left out", strings.Join(slices.Delete(slices.Clone(parts), i, i+1), " "))
			mustUnpackByHand(t, "a part put twice", strings.Join(slices.Insert(slices.Clone(parts), i, parts[i]), " "))
		}
	}
}

func TestRecordsWithAByteChanged(t *testing.T) {
	short := impl.Record{Kind: 1, Msg: impl.Message{Id: 10, Born: 5, From: "a@b", Rcpts: []string{"c@d"}, Body: "x\r\n"}}
	for _, r := range append(oneOfEach()[1:], short) {
		text := packByHand(r)
		for _, s := range changedAnywhere(text) {
			mustUnpackByHand(t, "a byte changed", s)
		}
		for i := range len(text) {
			mustUnpackByHand(t, "a front", text[:i])
			mustUnpackByHand(t, "an end", text[i+1:])
		}
		for _, other := range oneOfEach() {
			mustUnpackByHand(t, "two records", text+packByHand(other))
			mustUnpackByHand(t, "two records with a space", text+" "+packByHand(other))
		}
	}
}

func TestRandomRecordsAreUnpacked(t *testing.T) {
	r := rand.New(rand.NewSource(62))
	for range 3000 {
		mustPack(t, "a random record", randomRecord(r), true)
	}
	for range 3000 {
		mustUnpackByHand(t, "random pieces", randomPieces(r, []string{"M", "V", "T", "B", "N", " ", " 1", " 2", " 0:", " 3:a@b", "0", " 5", " 2:\r\n"}, 9))
	}
}

func TestUnpackRecordAnswersNewMemory(t *testing.T) {
	r := message(4, 5)
	text := packByHand(r)
	first, _ := impl.UnpackRecord(text)
	for i := range whole(first.Msg.Rcpts) {
		whole(first.Msg.Rcpts)[i] = "scribble"
	}
	mustUnpack(t, "once more", text, r, true)
}
