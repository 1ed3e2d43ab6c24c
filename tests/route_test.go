package tests

import (
	"fmt"
	"math"
	"math/rand"
	"slices"
	"sort"
	"strings"
	"testing"

	"loop.example/s01729/impl"
)

// tieByHand is the tie number of a host.
func tieByHand(seed uint32, host string) uint32 {
	return bitSum(fourBytes(seed) + host)
}

// routeByHand is the document's chapter, told by a list that is searched for its best
// element again and again.
func routeByHand(domain string, z impl.Zone, seed uint32) ([]string, int) {
	if !domainByHand(domain) {
		return nil, impl.RouteGone
	}
	switch [2]int{z.Kind, z.Addr} {
	case [2]int{impl.ZNone, impl.ZOk}:
		return []string{domain}, impl.RouteOk
	case [2]int{impl.ZNone, impl.ZFail}:
		return nil, impl.RouteTemp
	}
	if z.Kind == impl.ZGone || z.Kind == impl.ZNone {
		return nil, impl.RouteGone
	}
	if z.Kind != impl.ZOk {
		return nil, impl.RouteTemp
	}
	if len(z.MXs) == 1 && z.MXs[0].Host == "." {
		return nil, impl.RouteNull
	}
	hosts := hostsByHand(z.MXs, seed)
	if len(hosts) == 0 {
		return nil, impl.RouteGone
	}
	return hosts[:min(8, len(hosts))], impl.RouteOk
}

func hostsByHand(mxs []impl.MX, seed uint32) []string {
	best := map[string]int{}
	for i, mx := range mxs {
		if i >= 32 || mx.Pref < 0 || mx.Pref > 65535 || !domainByHand(mx.Host) {
			continue
		}
		if pref, known := best[mx.Host]; !known || mx.Pref < pref {
			best[mx.Host] = mx.Pref
		}
	}
	var keys []string
	for host, pref := range best {
		keys = append(keys, fmt.Sprintf("%05d %010d %s", pref, tieByHand(seed, host), host))
	}
	sort.Strings(keys)
	for i := range keys {
		keys[i] = keys[i][17:]
	}
	return keys
}

func mustRoute(t *testing.T, domain string, z impl.Zone, seed uint32, want []string, code int) {
	t.Helper()
	given := impl.Zone{Kind: z.Kind, MXs: slices.Clone(z.MXs), Addr: z.Addr}
	hosts, got := impl.Route(domain, given, seed)
	if !slices.Equal(hosts, want) || got != code {
		t.Fatalf("Route(%.40q, %.200v, %d): %v %d, not %v %d", domain, z, seed, hosts, got, want, code)
	}
	if !slices.Equal(given.MXs, z.MXs) {
		t.Fatalf("Route changed its exchangers: %.200v", given)
	}
}

func mustRouteByHand(t *testing.T, domain string, z impl.Zone, seed uint32) {
	t.Helper()
	want, code := routeByHand(domain, z, seed)
	mustRoute(t, domain, z, seed, want, code)
}

func okZone(mxs ...impl.MX) impl.Zone {
	return impl.Zone{Kind: impl.ZOk, MXs: mxs}
}

func TestRouteKinds(t *testing.T) {
	kinds := []int{impl.ZOk, impl.ZNone, impl.ZGone, impl.ZFail, 0, -1, 5, 6, math.MinInt, math.MaxInt}
	lists := [][]impl.MX{nil, {}, {{Pref: 1, Host: "a"}}, {{Pref: 1, Host: "."}}, {{Pref: 2, Host: "a"}, {Pref: 1, Host: "b"}}, {{Pref: 1, Host: "A"}}}
	for _, domain := range []string{"x", "x.y", domainOf(100), domainOf(101), "", ".", "x.", "X", "a@b", "a b"} {
		for _, kind := range kinds {
			for _, addr := range kinds {
				for _, mxs := range lists {
					mustRouteByHand(t, domain, impl.Zone{Kind: kind, MXs: mxs, Addr: addr}, 5)
				}
			}
		}
	}
}

func TestRouteWithoutExchangers(t *testing.T) {
	some := []impl.MX{{Pref: 1, Host: "a"}}
	for _, mxs := range [][]impl.MX{nil, some} {
		mustRoute(t, "x.y", impl.Zone{Kind: impl.ZNone, MXs: mxs, Addr: impl.ZOk}, 0, []string{"x.y"}, impl.RouteOk)
		mustRoute(t, "x.y", impl.Zone{Kind: impl.ZNone, MXs: mxs, Addr: impl.ZFail}, 0, nil, impl.RouteTemp)
		for _, addr := range []int{impl.ZNone, impl.ZGone, 0, -1, 5} {
			mustRoute(t, "x.y", impl.Zone{Kind: impl.ZNone, MXs: mxs, Addr: addr}, 0, nil, impl.RouteGone)
		}
		mustRoute(t, "x.y", impl.Zone{Kind: impl.ZGone, MXs: mxs, Addr: impl.ZOk}, 0, nil, impl.RouteGone)
		for _, kind := range []int{impl.ZFail, 0, -1, 5} {
			mustRoute(t, "x.y", impl.Zone{Kind: kind, MXs: mxs, Addr: impl.ZOk}, 0, nil, impl.RouteTemp)
		}
	}
	mustRoute(t, "x.", impl.Zone{Kind: impl.ZFail}, 0, nil, impl.RouteGone)
	mustRoute(t, "x.", impl.Zone{Kind: impl.ZNone, Addr: impl.ZOk}, 0, nil, impl.RouteGone)
	mustRoute(t, "x.", okZone(some...), 0, nil, impl.RouteGone)
	mustRoute(t, "x.", okZone(impl.MX{Host: "."}), 0, nil, impl.RouteGone)
}

func TestNullExchanger(t *testing.T) {
	for _, pref := range []int{0, 1, -1, 65535, 65536, math.MinInt, math.MaxInt} {
		null := impl.MX{Pref: pref, Host: "."}
		mustRoute(t, "x", okZone(null), 0, nil, impl.RouteNull)
		mustRoute(t, "x", okZone(null, null), 0, nil, impl.RouteGone)
		mustRoute(t, "x", okZone(null, impl.MX{Pref: 9, Host: "a"}), 0, []string{"a"}, impl.RouteOk)
		mustRoute(t, "x", okZone(impl.MX{Pref: 9, Host: "a"}, null), 0, []string{"a"}, impl.RouteOk)
		mustRoute(t, "x", impl.Zone{Kind: impl.ZNone, MXs: []impl.MX{null}}, 0, nil, impl.RouteGone)
	}
	for _, host := range []string{"", "..", ". ", ".a"} {
		mustRoute(t, "x", okZone(impl.MX{Host: host}), 0, nil, impl.RouteGone)
	}
}

func TestExchangersThatDoNotCount(t *testing.T) {
	for _, pref := range []int{-1, -10, 65536, 65537, 100000, 1 << 32, math.MinInt, math.MaxInt} {
		mustRoute(t, "x", okZone(impl.MX{Pref: pref, Host: "a"}), 0, nil, impl.RouteGone)
		mustRoute(t, "x", okZone(impl.MX{Pref: pref, Host: "a"}, impl.MX{Pref: 5, Host: "b"}), 0, []string{"b"}, impl.RouteOk)
		mustRoute(t, "x", okZone(impl.MX{Pref: pref, Host: "a"}, impl.MX{Pref: 5, Host: "a"}), 0, []string{"a"}, impl.RouteOk)
	}
	for _, pref := range []int{0, 1, 65534, 65535} {
		mustRoute(t, "x", okZone(impl.MX{Pref: pref, Host: "a"}), 0, []string{"a"}, impl.RouteOk)
	}
	for _, host := range []string{"", "A", "a.", ".a", "a..b", "-a", "a_b", "a@b", domainOf(101), strings.Repeat("h", 64)} {
		mustRoute(t, "x", okZone(impl.MX{Pref: 1, Host: host}), 0, nil, impl.RouteGone)
		mustRoute(t, "x", okZone(impl.MX{Pref: 1, Host: host}, impl.MX{Pref: 5, Host: "b"}), 0, []string{"b"}, impl.RouteOk)
	}
	mustRoute(t, "x", okZone(), 0, nil, impl.RouteGone)
	mustRoute(t, "x", okZone(impl.MX{Pref: 1, Host: domainOf(100)}), 0, []string{domainOf(100)}, impl.RouteOk)
}

func TestPreferenceComesFirst(t *testing.T) {
	list := []impl.MX{{Pref: 65535, Host: "a"}, {Pref: 10, Host: "c"}, {Pref: 9, Host: "d"}, {Pref: 0, Host: "e"}, {Pref: 100, Host: "b"}}
	for seed := range uint32(300) {
		mustRoute(t, "x", okZone(list...), seed, []string{"e", "d", "c", "b", "a"}, impl.RouteOk)
	}
}

func TestTieNumbers(t *testing.T) {
	// Which of two hosts comes first hangs on the seed, by the checksum's words.
	first := map[string]int{}
	for _, seed := range []uint32{0, 1, 2, 255, 256, 1 << 16, 1 << 24, 1 << 31, math.MaxUint32, 0x01020304, 0x04030201, 1000, 1001, 4294967000} {
		want := []string{"a.x", "b.x"}
		if tieByHand(seed, "b.x") < tieByHand(seed, "a.x") {
			want = []string{"b.x", "a.x"}
		}
		first[want[0]]++
		mustRoute(t, "x", okZone(impl.MX{Pref: 7, Host: "a.x"}, impl.MX{Pref: 7, Host: "b.x"}), seed, want, impl.RouteOk)
		mustRoute(t, "x", okZone(impl.MX{Pref: 7, Host: "b.x"}, impl.MX{Pref: 7, Host: "a.x"}), seed, want, impl.RouteOk)
	}
	if len(first) != 2 {
		t.Errorf("the test tells little: %v", first)
	}
}

// twins are pairs of hosts with the same checksum, whatever stands ahead of them.
var twins = [][]string{{"fwlfcvf.x", "vdyoebv.x"}, {"awyefrr.x", "bynupdm.x"}, {"bwdbcvb.x", "rdqkebr.x"}, {"czeinma.x", "ofceocg.x"}}

func TestEqualTieNumbers(t *testing.T) {
	for _, pair := range twins {
		for _, seed := range []uint32{0, 1, 7, 1000, math.MaxUint32} {
			if tieByHand(seed, pair[0]) != tieByHand(seed, pair[1]) {
				t.Fatalf("%v: the test tells nothing", pair)
			}
			one, two := impl.MX{Pref: 3, Host: pair[0]}, impl.MX{Pref: 3, Host: pair[1]}
			mustRoute(t, "x", okZone(one, two), seed, pair, impl.RouteOk)
			mustRoute(t, "x", okZone(two, one), seed, pair, impl.RouteOk)
			one.Pref = 4
			mustRoute(t, "x", okZone(one, two), seed, []string{pair[1], pair[0]}, impl.RouteOk)
		}
	}
}

func TestOneHostSeveralTimes(t *testing.T) {
	a, b := impl.MX{Pref: 20, Host: "a"}, impl.MX{Pref: 10, Host: "b"}
	late, soon := impl.MX{Pref: 30, Host: "b"}, impl.MX{Pref: 5, Host: "a"}
	mustRoute(t, "x", okZone(a, a, a), 0, []string{"a"}, impl.RouteOk)
	mustRoute(t, "x", okZone(late, a, b), 0, []string{"b", "a"}, impl.RouteOk)
	mustRoute(t, "x", okZone(a, b, late, soon), 0, []string{"a", "b"}, impl.RouteOk)
	mustRoute(t, "x", okZone(late, a), 0, []string{"a", "b"}, impl.RouteOk)
	// Hosts that come again take no place of others.
	var list []impl.MX
	var want []string
	for i := range 10 {
		host := string([]byte{'a' + byte(i)})
		list = append(list, impl.MX{Pref: i, Host: host}, impl.MX{Pref: i, Host: host}, impl.MX{Pref: i + 1, Host: host})
		want = append(want, host)
	}
	mustRoute(t, "x", okZone(list...), 9, want[:8], impl.RouteOk)
}

func TestAtMostMaxHosts(t *testing.T) {
	for n := 1; n <= 32; n++ {
		var list []impl.MX
		var want []string
		for i := range n {
			list = append(list, impl.MX{Pref: 1000 - i, Host: fmt.Sprintf("h%d.x", i)})
			want = append(want, fmt.Sprintf("h%d.x", n-1-i))
		}
		mustRoute(t, "x", okZone(list...), 0, want[:min(8, n)], impl.RouteOk)
	}
}

func TestOnlyMaxMXCount(t *testing.T) {
	for n := 28; n < 40; n++ {
		var list []impl.MX
		for range n {
			list = append(list, impl.MX{Pref: 10, Host: "bad-"})
		}
		mustRoute(t, "x", okZone(list...), 0, nil, impl.RouteGone)
		// What does not count takes its place among those that are looked at.
		behind := append(slices.Clone(list), impl.MX{Pref: 0, Host: "best"})
		if n < 32 {
			mustRoute(t, "x", okZone(behind...), 0, []string{"best"}, impl.RouteOk)
		} else {
			mustRoute(t, "x", okZone(behind...), 0, nil, impl.RouteGone)
		}
		list[0] = impl.MX{Pref: 9, Host: "first"}
		mustRoute(t, "x", okZone(list...), 0, []string{"first"}, impl.RouteOk)
	}
}

func randomMXs(r *rand.Rand, most int) []impl.MX {
	var list []impl.MX
	hosts := []string{"a", "b", "c.d", "e", "f", "g", "h1", "h2", "h3", "h4", "h5", ".", "A", "", "x-"}
	hosts = append(append(hosts, twins[0]...), twins[1]...)
	prefs := []int{0, 1, 1, 2, 10, 65535, 65536, -1}
	for range r.Intn(most + 1) {
		list = append(list, impl.MX{Pref: prefs[r.Intn(len(prefs))], Host: hosts[r.Intn(len(hosts))]})
	}
	return list
}

func TestRandomRoutes(t *testing.T) {
	r := rand.New(rand.NewSource(20))
	seen := map[int]int{}
	for range 3000 {
		z := okZone(randomMXs(r, 45)...)
		if r.Intn(3) == 0 {
			z = okZone(randomMXs(r, 2)...)
		}
		seed := r.Uint32()
		mustRouteByHand(t, "x.y", z, seed)
		hosts, code := impl.Route("x.y", z, seed)
		seen[code*10+len(hosts)]++
	}
	if len(seen) < 10 {
		t.Errorf("the test tells little: %v", seen)
	}
}

func TestRouteDoesNotHangOnTheOrder(t *testing.T) {
	r := rand.New(rand.NewSource(21))
	for range 300 {
		list := randomMXs(r, 32)
		seed := r.Uint32()
		hosts, code := impl.Route("x", okZone(list...), seed)
		for range 8 {
			r.Shuffle(len(list), func(i, j int) { list[i], list[j] = list[j], list[i] })
			mustRoute(t, "x", okZone(list...), seed, hosts, code)
		}
	}
}

func TestRouteAnswersNewMemory(t *testing.T) {
	z := okZone(impl.MX{Pref: 1, Host: "a"}, impl.MX{Pref: 2, Host: "b"})
	hosts, _ := impl.Route("x", z, 0)
	hosts[0] = "changed"
	mustRoute(t, "x", z, 0, []string{"a", "b"}, impl.RouteOk)
	none := impl.Zone{Kind: impl.ZNone, Addr: impl.ZOk}
	hosts, _ = impl.Route("x", none, 0)
	hosts[0] = "changed"
	mustRoute(t, "x", none, 0, []string{"x"}, impl.RouteOk)
}
