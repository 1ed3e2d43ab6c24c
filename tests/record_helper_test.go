package tests

import (
	"fmt"
	"math/rand"
	"reflect"
	"regexp"
	"strconv"
	"strings"
	"testing"

	"loop.example/s01729/impl"
)

var (
	plainPattern   = regexp.MustCompile(`\A(?:([BDN]) (\d+)|(T) (\d+) (\d+) (\d+))\z`)
	verdictPattern = regexp.MustCompile(`(?s)\AV (\d+) (\d+) (\d+) (\d+) (\d+):(.*)\z`)
	messagePattern = regexp.MustCompile(`(?s)\AM (\d+) (\d+) \d+((?: .*)?)\z`)
	textPattern    = regexp.MustCompile(`\A (\d+):`)
)

// roomyRecord has its list at the front of a longer one.
func roomyRecord(r impl.Record) impl.Record {
	r.Msg.Rcpts = roomy(r.Msg.Rcpts)
	return r
}

// plain is a value with nil for each list without elements, deep down.
func plain[T any](x T) T {
	flatten(reflect.ValueOf(&x).Elem())
	return x
}

func flatten(v reflect.Value) {
	switch v.Kind() {
	case reflect.Struct:
		for i := range v.NumField() {
			flatten(v.Field(i))
		}
	case reflect.Slice:
		if v.Len() == 0 {
			v.SetZero()
			return
		}
		list := reflect.MakeSlice(v.Type(), v.Len(), v.Len())
		reflect.Copy(list, v)
		for i := range list.Len() {
			flatten(list.Index(i))
		}
		v.Set(list)
	}
}

// same tells whether two values are the same, where a list without elements is nil.
func same[T any](a, b T) bool {
	return reflect.DeepEqual(plain(a), plain(b))
}

func within[T int | int64](n, least, most T) bool {
	return n >= least && n <= most
}

// recordByHand tells whether a record is right: it takes out what its kind may hold,
// and nothing may be left.
func recordByHand(r impl.Record) bool {
	right := false
	switch r.Kind {
	case 1:
		m := r.Msg
		right = within(m.Id, 1, 999999) && within(m.Born, 0, 20000000) && mailByHand("x", m.From, m.Rcpts, m.Body)
		r.Msg = impl.Message{}
	case 2:
		code := r.V.Code == 0 || within(r.V.Code, 200, 599)
		right = within(r.Id, 1, 999999) && within(r.Rcpt, 0, 19) && within(r.V.Kind, 1, 4) && code && len(r.V.Text) < 513
		r.Id, r.Rcpt, r.V = 0, 0, impl.Verdict{}
	case 3:
		right = within(r.Id, 1, 999999) && within(r.Tries, 0, 999999) && within(r.Due, 0, 20014400)
		r.Id, r.Tries, r.Due = 0, 0, 0
	case 4, 5:
		right = within(r.Id, 1, 999999)
		r.Id = 0
	case 6:
		right = within(r.Id, 1, 1000000)
		r.Id = 0
	}
	r.Kind = 0
	return right && same(r, impl.Record{})
}

// packByHand is PackRecord by the document's words, but for the question whether the
// record is right.
func packByHand(r impl.Record) string {
	switch r.Kind {
	case 1:
		var b strings.Builder
		fmt.Fprintf(&b, "M %d %d %d %d:%s", r.Msg.Id, r.Msg.Born, len(r.Msg.Rcpts), len(r.Msg.From), r.Msg.From)
		for _, rcpt := range append(roomy(r.Msg.Rcpts), r.Msg.Body) {
			fmt.Fprintf(&b, " %d:%s", len(rcpt), rcpt)
		}
		return b.String()
	case 2:
		return fmt.Sprintf("V %d %d %d %d %d:%s", r.Id, r.Rcpt, r.V.Kind, r.V.Code, len(r.V.Text), r.V.Text)
	case 3:
		return fmt.Sprintf("T %d %d %d", r.Id, r.Tries, r.Due)
	case 4, 5, 6:
		return fmt.Sprintf("%c %d", "BDN"[r.Kind-4], r.Id)
	}
	return ""
}

func numberByHand(s string) int {
	n, _ := strconv.Atoi(s)
	return n
}

// guessByHand is the only record of which s may be the text.
func guessByHand(s string) impl.Record {
	if p := plainPattern.FindStringSubmatch(s); p != nil && p[1] != "" {
		return impl.Record{Kind: 4 + strings.Index("BDN", p[1]), Id: numberByHand(p[2])}
	} else if p != nil {
		return impl.Record{Kind: 3, Id: numberByHand(p[4]), Tries: numberByHand(p[5]), Due: int64(numberByHand(p[6]))}
	}
	if p := verdictPattern.FindStringSubmatch(s); p != nil {
		v := impl.Verdict{Kind: numberByHand(p[3]), Code: numberByHand(p[4]), Text: p[6]}
		return impl.Record{Kind: 2, Id: numberByHand(p[1]), Rcpt: numberByHand(p[2]), V: v}
	}
	if p := messagePattern.FindStringSubmatch(s); p != nil {
		texts := textsByHand(p[3])
		if n := len(texts); n > 2 {
			m := impl.Message{Id: numberByHand(p[1]), Born: int64(numberByHand(p[2])), From: texts[0], Rcpts: texts[1 : n-1], Body: texts[n-1]}
			return impl.Record{Kind: 1, Msg: m}
		}
	}
	return impl.Record{}
}

// textsByHand is the texts at the front of s, each with a space and its length ahead.
func textsByHand(s string) []string {
	var texts []string
	for {
		p := textPattern.FindStringSubmatch(s)
		if p == nil || numberByHand(p[1]) > len(s)-len(p[0]) {
			return texts
		}
		s = s[len(p[0]):]
		texts, s = append(texts, s[:numberByHand(p[1])]), s[numberByHand(p[1]):]
	}
}

// unpackByHand asks whether a text is that of the one record it may be of.
func unpackByHand(s string) (impl.Record, bool) {
	r := guessByHand(s)
	if !recordByHand(r) || packByHand(r) != s {
		return impl.Record{}, false
	}
	return r, true
}

func mustUnpack(t *testing.T, what, s string, want impl.Record, ok bool) {
	t.Helper()
	got, found := impl.UnpackRecord(s)
	if found != ok || !same(got, want) {
		t.Fatalf("%s: UnpackRecord of %d bytes %.300q: %t %.300q, not %t %.300q", what, len(s), s, found, fmt.Sprint(got), ok, fmt.Sprint(want))
	}
}

func mustUnpackByHand(t *testing.T, what, s string) {
	t.Helper()
	want, ok := unpackByHand(s)
	mustUnpack(t, what, s, want, ok)
}

// mustPack packs a record, which is right or not, and unpacks its text.
func mustPack(t *testing.T, what string, r impl.Record, right bool) {
	t.Helper()
	if recordByHand(r) != right {
		t.Fatalf("%s: the test's own judgement of %.300q is %t", what, fmt.Sprint(r), !right)
	}
	given, kept := roomyRecord(r), roomyRecord(r)
	text, want := impl.PackRecord(given), ""
	if right {
		want = packByHand(r)
	}
	if text != want {
		t.Fatalf("%s: PackRecord of %.300q %s", what, fmt.Sprint(r), unlike(text, want))
	}
	given.Msg.Rcpts, kept.Msg.Rcpts = whole(given.Msg.Rcpts), whole(kept.Msg.Rcpts)
	if !same(given, kept) {
		t.Fatalf("%s: PackRecord changed %.300q to %.300q", what, fmt.Sprint(kept), fmt.Sprint(given))
	}
	if right {
		mustUnpack(t, what, want, r, true)
	}
	// A text in the form of a record that is not right is none.
	mustUnpackByHand(t, what, packByHand(r))
}

func message(id, rcpts int) impl.Record {
	return impl.Record{Kind: impl.KMessage, Msg: impl.Message{Id: id, Born: 70, From: "me@here.example", Rcpts: addresses(rcpts), Body: "X: y\r\n\r\n 3:hi 5\r\n"}}
}

func verdict(id, rcpt int, v impl.Verdict) impl.Record {
	return impl.Record{Kind: impl.KVerdict, Id: id, Rcpt: rcpt, V: v}
}

func try(id, tries int, due int64) impl.Record {
	return impl.Record{Kind: impl.KTry, Id: id, Tries: tries, Due: due}
}

func bounced(id int) impl.Record { return impl.Record{Kind: impl.KBounce, Id: id} }

func drop(id int) impl.Record { return impl.Record{Kind: impl.KDrop, Id: id} }

func next(id int) impl.Record { return impl.Record{Kind: impl.KNext, Id: id} }

// oneOfEach is a right record of each kind, with no field at its zero.
func oneOfEach() []impl.Record {
	return []impl.Record{message(3, 2), verdict(3, 1, perm(550, "no 2:ab")), try(3, 2, 190), bounced(3), drop(3), next(3)}
}

// randomRecord is a right record about one of a few messages.
func randomRecord(r *rand.Rand) impl.Record {
	id := 1 + r.Intn(5)
	v := impl.Verdict{Kind: 1 + r.Intn(4), Code: []int{0, 200, 250, 421, 599}[r.Intn(5)], Text: randomPieces(r, []string{" ", "1:", "x", "\r\n", "\xff"}, 4)}
	switch r.Intn(9) {
	case 0, 1:
		m := message(id+r.Intn(4), 1+r.Intn(3))
		m.Msg.Born = int64(r.Intn(3) * 10)
		m.Msg.From = pick(r, "", "a@b")
		return m
	case 2:
		return try(id, r.Intn(3), int64(r.Intn(3)*10))
	case 3:
		return bounced(id)
	case 4:
		return drop(id)
	case 5:
		return next(1 + r.Intn(7))
	}
	return verdict(id, r.Intn(4), v)
}
