package tests

import (
	"fmt"
	"slices"
	"strings"
	"testing"

	"loop.example/s01729/impl"
)

// mustTry plays a tick at 0 behind a script that injects message 1, and holds what was
// sent and the verdicts that are left against those that are wanted.
func mustTry(t *testing.T, what string, ahead []impl.Op, dialogues []string, verdicts ...impl.Verdict) {
	t.Helper()
	mustAnswer(t, what, script(ahead, tickOp(0), lookOp(1)), ticked(0, dialogues...), seen(1, verdicts...))
}

// mustFail plays a tick at 0 behind a script that injects message 1, whose recipients
// are all decided by it: those that are named failed.
func mustFail(t *testing.T, what string, ahead []impl.Op, dialogues []string, failures ...impl.Failure) {
	t.Helper()
	box := plainly(0)
	if len(failures) > 0 {
		b := impl.Bounce{Helo: "out.example", To: me, Failures: failures, Headers: "Subject: hi\r\n"}
		box = impl.Out{Num: 1, Texts: []string{makeByHand(b)}}
	}
	mustAnswer(t, what, script(ahead, tickOp(0), lookOp(1), boxOp(me)), ticked(0, dialogues...), coded(impl.AUnknown), box)
}

func failed(rcpt string, code int, text string) impl.Failure {
	return impl.Failure{Rcpt: rcpt, Status: "5.0.0", Code: code, Text: text}
}

func TestEachAnswerOfRoute(t *testing.T) {
	mail := script(takeOp("a.x"), takeOp("h1.x"), injectOp(me, "x@a.x"))
	zoned := func(z impl.Zone) []impl.Op { return script(zoneOp("a.x", z), mail) }
	for _, z := range []impl.Zone{{Kind: impl.ZFail}, {}, {Kind: 5}, {Kind: -1}, {Kind: impl.ZNone, Addr: impl.ZFail}, {Kind: impl.ZFail, Addr: impl.ZOk, MXs: []impl.MX{{Host: "h1.x"}}}} {
		mustTry(t, fmt.Sprint("no answer, zone ", z), zoned(z), nil, temp(0, "no answer"))
	}
	mustTry(t, "no zone", mail, nil, temp(0, "no answer"))
	for _, z := range []impl.Zone{{Kind: impl.ZGone}, {Kind: impl.ZNone}, {Kind: impl.ZNone, Addr: impl.ZGone}, {Kind: impl.ZOk}, okZone(impl.MX{Pref: -1, Host: "h1.x"}), okZone(impl.MX{Host: "."}, impl.MX{Host: "."})} {
		mustFail(t, fmt.Sprint("gone, zone ", z), zoned(z), nil, failed("x@a.x", 550, "no such domain"))
	}
	for _, z := range []impl.Zone{okZone(impl.MX{Host: "."}), okZone(impl.MX{Pref: 70000, Host: "."})} {
		mustFail(t, fmt.Sprint("null, zone ", z), zoned(z), nil, failed("x@a.x", 556, "null exchanger"))
	}
	mustFail(t, "its own host", zoned(impl.Zone{Kind: impl.ZNone, Addr: impl.ZOk}), []string{"a.x", delivered("x@a.x")})
	mustFail(t, "an exchanger", zoned(okZone(impl.MX{Host: "h1.x"}, impl.MX{Pref: -1, Host: "a.x"})), []string{"h1.x", delivered("x@a.x")})
}

// Each of a group gets the verdict on its domain, and all of these are one journal.
func TestVerdictsOnAWholeGroup(t *testing.T) {
	for _, n := range []int{1, 2, 20} {
		var rcpts []string
		var failures []impl.Failure
		for i := range n {
			rcpts = append(rcpts, fmt.Sprintf("r%d@a.x", i))
			failures = append(failures, failed(rcpts[i], 550, "no such domain"))
		}
		ahead := script(zoneOp("a.x", impl.Zone{Kind: impl.ZGone}), injectOp(me, rcpts...))
		mustFail(t, fmt.Sprint(n, " recipients"), ahead, nil, failures...)
		// The verdicts and their sync, the bounce, the KBounce and its sync, the KDrop and its sync.
		if got := stepsOf(ahead, tickOp(0)); got != n+1+1+2+2 {
			t.Fatalf("%d recipients: %d steps", n, got)
		}
		mustTry(t, fmt.Sprint(n, " recipients wait"), script(injectOp(me, rcpts...)), nil, slices.Repeat([]impl.Verdict{temp(0, "no answer")}, n)...)
		if got := stepsOf(script(injectOp(me, rcpts...)), tickOp(0)); got != n+1+2 {
			t.Fatalf("%d recipients wait: %d steps", n, got)
		}
	}
}

func TestGroupsComeInOrder(t *testing.T) {
	homes := script(homeOp("a.x"), homeOp("b.x"), homeOp("c.x"))
	for _, d := range []string{"a.x", "b.x", "c.x"} {
		homes = append(homes, speakOp(d, "450 later", "450 later", "221 bye"))
	}
	for _, c := range []struct{ rcpts, dialogues string }{
		{"1@a.x", "a.x 1@a.x"},
		{"1@a.x 2@a.x", "a.x 1@a.x,2@a.x"},
		{"1@b.x 2@a.x", "b.x 1@b.x a.x 2@a.x"},
		{"1@c.x 2@b.x 3@a.x", "c.x 1@c.x b.x 2@b.x a.x 3@a.x"},
		{"1@b.x 2@a.x 3@b.x", "b.x 1@b.x,3@b.x a.x 2@a.x"},
		{"9@a.x 1@b.x 1@a.x 9@b.x 5@c.x", "a.x 9@a.x,1@a.x b.x 1@b.x,9@b.x c.x 5@c.x"},
		{"1@a.x 1@a.x", "a.x 1@a.x,1@a.x"},
	} {
		want := strings.Fields(c.dialogues)
		for i := 1; i < len(want); i += 2 {
			want[i] = denied(strings.Split(want[i], ",")...)
		}
		rcpts := strings.Fields(c.rcpts)
		mustTry(t, c.rcpts, script(homes, injectOp(me, rcpts...)), want, slices.Repeat([]impl.Verdict{temp(450, "later")}, len(rcpts))...)
	}
}

// A domain that another one ends with, or is the end of, is another group.
func TestGroupsAreWholeDomains(t *testing.T) {
	homes := script(homeOp("a.x"), homeOp("x"), homeOp("b.a.x"), speakOp("a.x", "450 a"), speakOp("x", "450 b"), speakOp("b.a.x", "450 c"))
	mustTry(t, "domains within domains", script(homes, injectOp(me, "1@a.x", "1@x", "1@b.a.x")),
		[]string{"a.x", denied("1@a.x"), "x", denied("1@x"), "b.a.x", denied("1@b.a.x")}, temp(450, "a"), temp(450, "b"), temp(450, "c"))
}

func TestOneHostForSeveralDomains(t *testing.T) {
	ahead := script(hostsOp("a.x", "h1.x"), hostsOp("b.x", "h1.x"), takeOp("h1.x"), injectOp(me, "1@a.x", "2@b.x"))
	mustFail(t, "two sessions", ahead, []string{"h1.x", delivered("1@a.x"), "h1.x", delivered("2@b.x")})
}

func TestHostsWithoutServer(t *testing.T) {
	zone := hostsOp("a.x", "h1.x", "h2.x", "h3.x")
	mail := injectOp(me, "1@a.x", "2@a.x")
	mustTry(t, "no server at all", script(zone, mail), nil, temp(0, "refused"), temp(0, "refused"))
	if n := stepsOf(script(zone, mail), tickOp(0)); n != 5 {
		t.Fatalf("hosts that refuse: %d steps", n)
	}
	mustTry(t, "the last one only", script(zone, speakOp("h3.x", "450 a", "450 b", "221 bye"), mail), []string{"h3.x", denied("1@a.x", "2@a.x")}, temp(450, "a"), temp(450, "b"))
	mustTry(t, "the first one closes", script(zone, serverOp("h1.x"), mail), []string{"h1.x", ""}, temp(0, "refused"), temp(0, "refused"))
	mustTry(t, "the last one closes", script(zone, serverOp("h3.x"), mail), []string{"h3.x", ""}, temp(0, "closed"), temp(0, "closed"))
	mustTry(t, "the last one is late", script(zone, serverOp("h2.x"), serverOp("h3.x", "?"), mail), []string{"h2.x", "", "h3.x", ""}, temp(0, "timeout"), temp(0, "timeout"))
}

func TestHostsThatDecideAll(t *testing.T) {
	zone := hostsOp("a.x", "h1.x", "h2.x")
	second := serverOp("h2.x", "554 never asked\r\n")
	rcpts := []string{"1@a.x", "2@a.x"}
	ahead := func(first impl.Op) []impl.Op { return script(zone, first, second, injectOp(me, rcpts...)) }
	mustFail(t, "taken", ahead(speakOp("h1.x", "250 ok", "251 ok", "354 go", "250 done")), []string{"h1.x", delivered(rcpts...)})
	mustFail(t, "denied", ahead(speakOp("h1.x", "550 a", "551 b")), []string{"h1.x", denied(rcpts...)}, failed("1@a.x", 550, "a"), failed("2@a.x", 551, "b"))
	mustFail(t, "one denied", ahead(speakOp("h1.x", "250 ok", "551 b", "354 go", "250 done")), []string{"h1.x", delivered(rcpts...)}, failed("2@a.x", 551, "b"))
	// A code that is not for good is a verdict for now: no other host is asked.
	mustTry(t, "put off", ahead(speakOp("h1.x", "450 a", "451 b")), []string{"h1.x", denied(rcpts...)}, temp(450, "a"), temp(451, "b"))
	mustTry(t, "greeted with 421", ahead(serverOp("h1.x", "421 busy\r\n")), []string{"h1.x", ""}, temp(421, "busy"), temp(421, "busy"))
	mustTry(t, "put off at once", ahead(serverOp("h1.x", "450 busy\r\n")), []string{"h1.x", said("QUIT")}, temp(450, "busy"), temp(450, "busy"))
}

func TestHostsThatLeaveSome(t *testing.T) {
	zone := hostsOp("a.x", "h1.x", "h2.x", "h3.x")
	rcpts := []string{"1@a.x", "2@a.x", "3@a.x", "4@a.x"}
	first := speakOp("h1.x", "250 ok", "550 no", "250 ok", "450 later", "354 go")
	firstSaid := []string{"h1.x", said(append(asked(rcpts...), "DATA", ".")...)}
	mail := injectOp(me, rcpts...)
	then := func(more ...string) []string { return append(slices.Clone(firstSaid), more...) }
	mustTry(t, "the second takes them", script(zone, first, speakOp("h2.x", "250 ok", "250 ok", "354 go", "250 done"), takeOp("h3.x"), mail),
		then("h2.x", delivered("1@a.x", "3@a.x")), fine("done"), perm(550, "no"), fine("done"), temp(450, "later"))
	mustTry(t, "the second takes one", script(zone, first, speakOp("h2.x", "550 never", "250 ok", "354 go", "?"), takeOp("h3.x"), mail),
		then("h2.x", said(append(asked("1@a.x", "3@a.x"), "DATA", ".")...), "h3.x", delivered("3@a.x")), perm(550, "never"), perm(550, "no"), fine("done"), temp(450, "later"))
	mustTry(t, "nobody takes them", script(zone, first, serverOp("h3.x", "?"), mail),
		then("h3.x", ""), temp(0, "timeout"), perm(550, "no"), temp(0, "timeout"), temp(450, "later"))
	mustTry(t, "nobody is there", script(zone, first, mail), then(), temp(0, "refused"), perm(550, "no"), temp(0, "refused"), temp(450, "later"))
	// Two verdicts of the first host and their sync, two of the last and theirs, the try and its.
	if n := stepsOf(script(zone, first, mail), tickOp(0)); n != 8 {
		t.Fatalf("%d steps", n)
	}
}

func TestAtMostEightHosts(t *testing.T) {
	var ahead []impl.Op
	var hosts, dialogues []string
	for i := range 9 {
		host := fmt.Sprintf("h%d.x", i)
		hosts = append(hosts, host)
		ahead = append(ahead, serverOp(host, "220 hi\r\n", []string{"", "?", "junk\r\n"}[i%3]))
		if i < 8 {
			dialogues = append(dialogues, host, said("EHLO out.example"))
		}
	}
	// The eighth host is the last whose verdict counts.
	mustTry(t, "nine hosts", script(hostsOp("a.x", hosts...), ahead, injectOp(me, "1@a.x")), dialogues, temp(0, "timeout"))
}

// Hosts of one preference come in an order that hangs on the message's number and its
// tries ahead of the tick, which are the same for each of its groups.
func TestSeedsOfHosts(t *testing.T) {
	z := impl.Zone{Kind: impl.ZOk}
	var ops []impl.Op
	for i, host := range []string{"a", "mail.example", "relay-9.other.example", "x.y.z", "backup.mail.example"} {
		z.MXs = append(z.MXs, impl.MX{Pref: 7 - i/4, Host: host})
		ops = append(ops, serverOp(host))
	}
	ops = append(ops, zoneOp("a.x", z), zoneOp("b.x", z))
	const messages = 4
	for range messages {
		ops = append(ops, injectOp(me, "1@a.x", "2@b.x"))
	}
	orders := map[string]int{}
	var clock int64
	for tries, seconds := range []int64{0, 60, 120, 240, 480} {
		ops = append(ops, tickOp(seconds))
		clock += seconds
		want := impl.Out{Num: clock}
		for id := 1; id <= messages; id++ {
			hosts := hostsByHand(z.MXs, uint32(1000*id+tries))
			for _, host := range slices.Repeat(hosts, 2) {
				want.Sent = append(want.Sent, impl.Sent{Host: host})
			}
			orders[fmt.Sprint(hosts)]++
		}
		mustAnswer(t, fmt.Sprint("tries ", tries), ops, want)
	}
	if len(orders) < 10 {
		t.Fatalf("only %d orders: the test tells nothing", len(orders))
	}
}

func TestMessagesInTheOrderOfTheirTurns(t *testing.T) {
	ahead := script(homeOp("a.x"), homeOp("b.x"), denyOp("a.x", 1, 450), denyOp("b.x", 1, 450), injectOp(me, "1@a.x"), tickOp(0), injectOp(me, "2@a.x"), injectOp(me, "3@b.x"), tickOp(10), injectOp(me, "4@a.x"))
	mustAnswer(t, "by their births", script(homeOp("a.x"), denyOp("a.x", 1, 450), injectOp(me, "1@a.x"), injectOp(me, "2@a.x"), tickOp(0)),
		ticked(0, "a.x", denied("1@a.x"), "a.x", denied("2@a.x")))
	// At 70 the fourth is due since 10, the first since 60, and the others since 70.
	mustAnswer(t, "by their turns", script(ahead, tickOp(60)),
		ticked(70, "a.x", denied("4@a.x"), "a.x", denied("1@a.x"), "a.x", denied("2@a.x"), "b.x", denied("3@b.x")))
	mustAnswer(t, "not yet", script(ahead, tickOp(49), tickOp(1), tickOp(9), tickOp(1)),
		ticked(59, "a.x", denied("4@a.x")), ticked(60, "a.x", denied("1@a.x")), ticked(69), ticked(70, "a.x", denied("2@a.x"), "b.x", denied("3@b.x")))
}

func TestRepliesOfEachForm(t *testing.T) {
	dialogue := lines("220 hi", "250 hi", "250 ok", "250 ok", "354 go", "250 done", "221 bye")
	whole := strings.Join(dialogue, "")
	ahead := func(replies ...string) []impl.Op {
		return script(homeOp("a.x"), serverOp("a.x", replies...), injectOp(me, "x@a.x"))
	}
	taken := []string{"a.x", delivered("x@a.x")}
	mustFail(t, "all in one", ahead(whole), taken)
	mustFail(t, "all in one, and more", ahead(whole+"250 what\r\n", "", "?"), taken)
	mustFail(t, "without the last reply", ahead(dialogue[:6]...), taken)
	for at := 1; at < len(whole); at++ {
		mustFail(t, fmt.Sprint("cut at ", at), ahead(whole[:at], whole[at:]), taken)
	}
	sent := []string{"", "EHLO out.example", "MAIL FROM:<" + me + ">", "RCPT TO:<x@a.x>", "DATA", "."}
	for n := range 6 {
		for _, c := range []struct{ reply, text string }{{"", "closed"}, {"?", "timeout"}, {"junk\r\n", "bad reply"}, {"??", "closed"}, {" ", "closed"}, {"2", "closed"}, {"?\r\n", "bad reply"}} {
			replies := append(slices.Clone(dialogue[:n]), c.reply)
			mustTry(t, fmt.Sprintf("%q behind %d", c.reply, n), ahead(replies...), []string{"a.x", said(sent[1 : n+1]...)}, temp(0, c.text))
			// What the server would say behind it is not heard, if the session is lost by it.
			if c.text != "closed" || c.reply == "" {
				mustTry(t, fmt.Sprintf("%q behind %d and more", c.reply, n), ahead(append(replies, dialogue[n:]...)...), []string{"a.x", said(sent[1 : n+1]...)}, temp(0, c.text))
			}
		}
		mustTry(t, fmt.Sprint("ends behind ", n), ahead(dialogue[:n]...), []string{"a.x", said(sent[1 : n+1]...)}, temp(0, "closed"))
	}
	// An end or a timeout within a reply.
	mustTry(t, "cut for good", ahead("220 hi\r\n25", "", "0 hi\r\n"), []string{"a.x", said("EHLO out.example")}, temp(0, "closed"))
	mustTry(t, "late", ahead("220 hi\r\n25", "?", "0 hi\r\n"), []string{"a.x", said("EHLO out.example")}, temp(0, "timeout"))
}

// A server that goes on talking behind the dialogue's end is left to itself.
func TestServersThatTalkOn(t *testing.T) {
	for n := range 54 {
		replies := append(lines("220 hi", "250 hi", "250 ok", "550 no", "221 bye"), slices.Repeat([]string{"250 more\r\n"}, n)...)
		mustFail(t, fmt.Sprint(n, " more replies"), script(homeOp("a.x"), serverOp("a.x", replies...), injectOp(me, "x@a.x")), []string{"a.x", denied("x@a.x")}, failed("x@a.x", 550, "no"))
	}
}
