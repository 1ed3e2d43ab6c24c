package tests

import (
	"fmt"
	"math/rand"
	"regexp"
	"slices"
	"strconv"
	"strings"
	"testing"

	"loop.example/s01729/impl"
)

// The document's forms as patterns, so that the tests hold the program against
// something that was not made by its rules. They read runes where the document reads
// bytes: give them what runes makes of a text.
const (
	labelForm  = `[a-z0-9](?:[a-z0-9-]{0,61}[a-z0-9])?`
	domainForm = labelForm + `(?:\.` + labelForm + `)*`
	localForm  = `[a-z0-9+_-]+(?:\.[a-z0-9+_-]+)*`
)

var (
	domainPattern  = regexp.MustCompile(`\A` + domainForm + `\z`)
	addressPattern = regexp.MustCompile(`\A(` + localForm + `)@(` + domainForm + `)\z`)
	replyPattern   = regexp.MustCompile(`(?s)\A([2-5][0-9]{2})(?:([ -])(.*))?\z`)
	cutPattern     = regexp.MustCompile(`\A[^\r\n]{0,511}\z|\A[^\r\n]{0,510}\r\z`)
	sizePattern    = regexp.MustCompile(`\A[Ss][Ii][Zz][Ee] ([0-9]{1,10})\z`)
	bodyPattern    = regexp.MustCompile(`\A(?:[^\r\n\x00]{0,998}\r\n)*\z`)
)

// runes is a text with a rune for each byte.
func runes(s string) string {
	var b strings.Builder
	for i := range len(s) {
		b.WriteRune(rune(s[i]))
	}
	return b.String()
}

func domainByHand(s string) bool {
	return len(s) <= 100 && domainPattern.MatchString(runes(s))
}

func addressByHand(s string) bool {
	parts := addressPattern.FindStringSubmatch(runes(s))
	return parts != nil && len(s) <= 160 && len(parts[1]) <= 64 && len(parts[2]) <= 100
}

func bodyByHand(s string) bool {
	return len(s) <= 3000 && bodyPattern.MatchString(runes(s))
}

// stuffByHand doubles the points at the beginnings of lines.
func stuffByHand(body string) string {
	return strings.ReplaceAll("\r\n"+body, "\r\n.", "\r\n..")[2:] + ".\r\n"
}

// replyByHand goes through the document's four questions, line by line.
func replyByHand(buf string) (impl.Reply, int, int) {
	var lines, codes []string
	rest := buf
	for len(lines) < 50 {
		at := strings.Index(rest, "\r\n")
		if at < 0 && cutPattern.MatchString(runes(rest)) {
			return impl.Reply{}, 0, impl.PMore
		}
		if at < 0 || at > 510 || strings.ContainsAny(rest[:at], "\r\n") {
			break
		}
		parts := replyPattern.FindStringSubmatch(runes(rest[:at]))
		if parts == nil || len(codes) > 0 && parts[1] != codes[0] {
			break
		}
		lines, codes = append(lines, rest[min(4, at):at]), append(codes, parts[1])
		rest = rest[at+2:]
		if parts[2] != "-" {
			code, _ := strconv.Atoi(codes[0])
			return impl.Reply{Code: code, Lines: lines}, len(buf) - len(rest), impl.POk
		}
	}
	return impl.Reply{}, 0, impl.PBad
}

func sizeByHand(lines []string) (int64, bool) {
	for i, line := range lines {
		if parts := sizePattern.FindStringSubmatch(runes(line)); i > 0 && parts != nil {
			n, _ := strconv.ParseInt(parts[1], 10, 64)
			return n, true
		}
	}
	return 0, false
}

// textsOver is every text of at most the given number of pieces.
func textsOver(pieces []string, most int) []string {
	all, last := []string{""}, []string{""}
	for range most {
		var next []string
		for _, s := range last {
			for _, p := range pieces {
				next = append(next, s+p)
			}
		}
		all, last = append(all, next...), next
	}
	return all
}

// changedAnywhere is the text with each of its bytes, and each gap, put as each byte
// that there is, and with each byte left out.
func changedAnywhere(s string) []string {
	var all []string
	for i := 0; i <= len(s); i++ {
		for b := range 256 {
			all = append(all, s[:i]+string([]byte{byte(b)})+s[i:])
			if i < len(s) {
				all = append(all, s[:i]+string([]byte{byte(b)})+s[i+1:])
			}
		}
		if i < len(s) {
			all = append(all, s[:i]+s[i+1:])
		}
	}
	return all
}

// randomPieces puts up to most of the pieces side by side.
func randomPieces(r *rand.Rand, pieces []string, most int) string {
	var b strings.Builder
	for range r.Intn(most + 1) {
		b.WriteString(pieces[r.Intn(len(pieces))])
	}
	return b.String()
}

type replyAnswer struct {
	reply impl.Reply
	used  int
	state int
}

func parsed(buf string) replyAnswer {
	reply, used, state := impl.ParseReply(buf)
	return replyAnswer{reply, used, state}
}

func (a replyAnswer) same(b replyAnswer) bool {
	return a.reply.Code == b.reply.Code && slices.Equal(a.reply.Lines, b.reply.Lines) && a.used == b.used && a.state == b.state
}

func (a replyAnswer) String() string {
	return fmt.Sprintf("%d %.60q, %d bytes, state %d", a.reply.Code, a.reply.Lines, a.used, a.state)
}

// mustParse holds the reading of buf against what the document asks.
func mustParse(t *testing.T, buf string, want replyAnswer) {
	t.Helper()
	if got := parsed(buf); !got.same(want) {
		t.Fatalf("ParseReply of %d bytes %.80q: %v, not %v", len(buf), buf, got, want)
	}
}

func mustParseByHand(t *testing.T, buf string) {
	t.Helper()
	reply, used, state := replyByHand(buf)
	mustParse(t, buf, replyAnswer{reply, used, state})
}
