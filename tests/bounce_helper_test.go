package tests

import (
	"fmt"
	"math/rand"
	"regexp"
	"slices"
	"strconv"
	"strings"
	"testing"

	"loop.example/s01729/impl"
)

const failureForm = "\r\nFinal-Recipient: rfc822; ([^\r\n]*)\r\nAction: failed\r\nStatus: ([^\r\n]*)\r\nDiagnostic-Code: smtp; ([0-9]+) ([^\r\n]*)\r\n"

var (
	aheadPattern   = regexp.MustCompile(`\A(?:[^\r\n]+\r\n)*`)
	strangePattern = regexp.MustCompile(`[^ -~]`)
	statusPattern  = regexp.MustCompile(`\A[45]\.[0-9]{1,3}\.[0-9]{1,3}\z`)
	failurePattern = regexp.MustCompile(failureForm)
	reportPattern  = regexp.MustCompile("(?s)\\AFrom: <>\r\nTo: <([^\r\n]*)>\r\nSubject: Undelivered mail\r\n" +
		"Content-Type: multipart/report; report-type=delivery-status; boundary=\"(b[0-9]+)\"\r\n\r\n" +
		"--b[0-9]+\r\nContent-Type: message/delivery-status\r\n\r\nReporting-MTA: dns; ([^\r\n]*)\r\n((?:" + failureForm + ")*)" +
		"\r\n--b[0-9]+\r\nContent-Type: text/rfc822-headers\r\n\r\n(.*)--b[0-9]+--\r\n\\z")
)

func headersByHand(body string) string {
	if !bodyByHand(body) {
		return ""
	}
	return aheadPattern.FindString(body)
}

func cleanByHand(text string) string {
	if len(text) > 200 {
		text = text[:200]
	}
	return strangePattern.ReplaceAllString(runes(text), "?")
}

func failureByHand(f impl.Failure) bool {
	code := f.Code == 0 || f.Code > 199 && f.Code < 600
	return addressByHand(f.Rcpt) && statusPattern.MatchString(f.Status) && code && len(f.Text) < 201 && !strangePattern.MatchString(runes(f.Text))
}

func bounceByHand(b impl.Bounce) bool {
	for _, f := range b.Failures {
		if !failureByHand(f) {
			return false
		}
	}
	lines := bodyByHand(b.Headers) && aheadPattern.FindString(b.Headers) == b.Headers
	return domainByHand(b.Helo) && addressByHand(b.To) && len(b.Failures) > 0 && len(b.Failures) < 21 && lines
}

// boundaryByHand tries one boundary behind another against each line.
func boundaryByHand(headers string) string {
	lines := strings.Split(headers, "\r\n")
	for n := 0; ; n++ {
		b := fmt.Sprint("b", n)
		if !slices.ContainsFunc(lines, func(line string) bool { return strings.HasPrefix(line, "--"+b) }) {
			return b
		}
	}
}

// reportByHand is the document's form filled in, with any boundary, right or not.
func reportByHand(b impl.Bounce, boundary string) string {
	lines := []string{
		"From: <>", "To: <" + b.To + ">", "Subject: Undelivered mail",
		`Content-Type: multipart/report; report-type=delivery-status; boundary="` + boundary + `"`, "",
		"--" + boundary, "Content-Type: message/delivery-status", "", "Reporting-MTA: dns; " + b.Helo,
	}
	for _, f := range b.Failures {
		lines = append(lines, "", "Final-Recipient: rfc822; "+f.Rcpt, "Action: failed", "Status: "+f.Status, fmt.Sprintf("Diagnostic-Code: smtp; %d %s", f.Code, f.Text))
	}
	lines = append(lines, "", "--"+boundary, "Content-Type: text/rfc822-headers", "", b.Headers+"--"+boundary+"--", "")
	return strings.Join(lines, "\r\n")
}

// makeByHand is MakeBounce by the document's words.
func makeByHand(b impl.Bounce) string {
	if !bounceByHand(b) {
		return ""
	}
	return reportByHand(b, boundaryByHand(b.Headers))
}

// readReportByHand takes a report apart by its pattern, and asks whether it is made of
// what was found.
func readReportByHand(text string) (impl.Bounce, bool) {
	parts := reportPattern.FindStringSubmatch(text)
	if parts == nil {
		return impl.Bounce{}, false
	}
	b := impl.Bounce{To: parts[1], Helo: parts[3], Headers: parts[len(parts)-1]}
	for _, f := range failurePattern.FindAllStringSubmatch(parts[4], -1) {
		code, _ := strconv.Atoi(f[3])
		b.Failures = append(b.Failures, impl.Failure{Rcpt: f[1], Status: f[2], Code: code, Text: f[4]})
	}
	if !bounceByHand(b) || makeByHand(b) != text {
		return impl.Bounce{}, false
	}
	return b, true
}

func sameBounce(a, b impl.Bounce) bool {
	return a.Helo == b.Helo && a.To == b.To && a.Headers == b.Headers && slices.Equal(a.Failures, b.Failures)
}

// mustMake holds the text of a bounce against the one that is wanted; a text that is
// not empty must be read back as the bounce that it was made of.
func mustMake(t *testing.T, what string, b impl.Bounce, want string) {
	t.Helper()
	given, kept := b, b
	given.Failures, kept.Failures = roomy(b.Failures), roomy(b.Failures)
	text := impl.MakeBounce(given)
	if text != want {
		t.Fatalf("%s: MakeBounce of %.300q %s", what, fmt.Sprint(b), unlike(text, want))
	}
	given.Failures, kept.Failures = whole(given.Failures), whole(kept.Failures)
	if !sameBounce(given, kept) {
		t.Fatalf("%s: MakeBounce changed %.600q to %.600q", what, fmt.Sprint(kept), fmt.Sprint(given))
	}
	if want == "" {
		mustRead(t, what, want, impl.Bounce{}, false)
		return
	}
	mustRead(t, what, want, b, true)
}

// unlike tells where two texts part.
func unlike(got, want string) string {
	at := 0
	for at < min(len(got), len(want)) && got[at] == want[at] {
		at++
	}
	return fmt.Sprintf("has %d bytes, from %d on %.60q, not %d with %.60q", len(got), at, got[at:], len(want), want[at:])
}

func mustMakeByHand(t *testing.T, what string, b impl.Bounce) {
	t.Helper()
	mustMake(t, what, b, makeByHand(b))
}

func mustRead(t *testing.T, what, text string, want impl.Bounce, ok bool) {
	t.Helper()
	got, found := impl.ReadBounce(text)
	if found != ok || !sameBounce(got, want) {
		t.Fatalf("%s: ReadBounce of %d bytes %.700q: %t %.300q, not %t %.300q", what, len(text), text, found, fmt.Sprint(got), ok, fmt.Sprint(want))
	}
}

func mustReadByHand(t *testing.T, what, text string) {
	t.Helper()
	want, ok := readReportByHand(text)
	mustRead(t, what, text, want, ok)
}

// bounce is a right bounce with n failures.
func bounce(n int) impl.Bounce {
	b := impl.Bounce{Helo: "out.example", To: "me@here.example", Headers: "Subject: hi\r\nX: y\r\n"}
	for i, rcpt := range addresses(n) {
		f := impl.Failure{Rcpt: rcpt, Status: "5.0.0", Code: 550 + i, Text: "no such user: " + rcpt}
		if i%2 == 1 {
			f = impl.Failure{Rcpt: rcpt, Status: "4.4.7"}
		}
		b.Failures = append(b.Failures, f)
	}
	return b
}

// randomBounce is a right bounce most times.
func randomBounce(r *rand.Rand) impl.Bounce {
	b := impl.Bounce{Helo: pick(r, "x", "out.example", "a-1.b"), To: pick(r, "a@b", "me+x@here.example")}
	for range 1 + r.Intn(4) {
		b.Failures = append(b.Failures, impl.Failure{
			Rcpt:   pick(r, "c@d", "e.f@g.h", "x_y@z"),
			Status: fmt.Sprintf("%d.%d.%d", 4+r.Intn(2), r.Intn(1000), r.Intn(1000)),
			Code:   []int{0, 200, 250, 599, 200 + r.Intn(400)}[r.Intn(5)],
			Text:   randomPieces(r, []string{" ", "a", "~", "550", ":", "--b0", "<", ">", "\""}, 6),
		})
	}
	for range r.Intn(6) {
		b.Headers += pick(r, "--b", "--", "-", "x", "--b0", "--b1", "--b1", "--b10", "--b2", "From: <>", "\xff") + pick(r, "", "0", "--", "1", " ") + "\r\n"
	}
	return b
}

func pick[T any](r *rand.Rand, list ...T) T {
	return list[r.Intn(len(list))]
}
