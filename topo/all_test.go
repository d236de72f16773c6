package topo_test

import (
	"math"
	"math/bits"
	"slices"
	"strings"
	"testing"

	"folkmoot/api"
	"folkmoot/span"
	"folkmoot/topo"
)

// dice answers numbers from 0 on and below n, the same ones in every run.
func dice(seed uint64) func(n int) int {
	return func(n int) int {
		seed = seed*6364136223846793005 + 1442695040888963407
		return int(seed >> 33 % uint64(n))
	}
}

// anyText is a text of few bytes, or of many.
func anyText(dice func(int) int) string {
	b := make([]byte, dice(4))
	for i := range b {
		b[i] = "\x00ab\x7f\x80\xff"[dice(6)]
	}
	return string(b) + strings.Repeat("a", dice(2)*dice(2)*dice(30))
}

// anyRow is a topology that may be.
func anyRow(dice func(int) int) []api.Shard {
	var parts []string
	for range dice(api.MaxShards) {
		text := anyText(dice)
		parts = append(parts, "b"+text[:min(len(text), api.MaxKey-1)])
	}
	slices.Sort(parts)
	l := row(slices.Compact(parts)...)
	for i := range l {
		l[i].Nodes = nil
		for n := 1; n <= api.MaxNode; n++ {
			if dice(2) == 0 && len(l[i].Nodes) < api.MaxReplicas {
				l[i].Nodes = append(l[i].Nodes, n)
			}
		}
		if l[i].Nodes == nil {
			l[i].Nodes = []int{1 + dice(api.MaxNode)}
		}
	}
	return l
}

// anySpans is a few spans, some of which are empty.
func anySpans(dice func(int) int) []api.Span {
	var l []api.Span
	for range dice(6) {
		l = append(l, api.Span{From: anyText(dice), To: anyText(dice)})
	}
	return l
}

// anyPlaces is a few places, some of which are none.
func anyPlaces(dice func(int) int) []int {
	var l []int
	for range dice(6) {
		l = append(l, dice(api.MaxShards+6)-3)
	}
	return l
}

func within(s api.Span, text string) bool { return text >= s.From && (s.To == "" || text < s.To) }

// meets tells whether two spans that are not empty have a text in common.
func meets(a, b api.Span) bool { return within(a, b.From) || within(b, a.From) }

// P4.1, P4.2, P4.5: each key lies in just one shard, and just that one's nodes own it.
func TestEachKeyIsInJustOneShard(t *testing.T) {
	dice := dice(3)
	for range 2000 {
		l := anyRow(dice)
		wantOK(t, "a row", l)
		for range 10 {
			wantInOne(t, l, anyText(dice))
			wantInOne(t, l, l[dice(len(l))].Span.From)
			wantInOne(t, l, l[dice(len(l))].Span.To+"\x00")
		}
	}
}

// wantInOne asks where a key is, and who owns it.
func wantInOne(t *testing.T, l []api.Shard, k string) {
	t.Helper()
	place := topo.Find(l, k)
	for i, s := range l {
		if within(s.Span, k) != (i == place) {
			t.Fatalf("%q in %v: %d", k, l, place)
		}
	}
	wantList(t, "the point of a key", topo.Touch(l, []api.Span{span.Point(k)}), place)
	for node := -1; node <= api.MaxNode+1; node++ {
		if got := span.Has(topo.Owned(l, node), k); got != slices.Contains(l[place].Nodes, node) {
			t.Fatalf("%q of %d in %v: %v", k, node, l, got)
		}
	}
}

// P4.2
func TestTouchOfAnySet(t *testing.T) {
	dice := dice(5)
	for range 5000 {
		l, set := anyRow(dice), span.Union(anySpans(dice)...)
		var want []int
		for i, s := range l {
			if slices.ContainsFunc(set, func(other api.Span) bool { return meets(s.Span, other) }) {
				want = append(want, i)
			}
		}
		wantList(t, "Touch", topo.Touch(l, set), want...)
	}
}

// P4.3, P4.4
func TestWhoKeepsAnyShards(t *testing.T) {
	dice := dice(7)
	for range 3000 {
		l, shards := anyRow(dice), anyPlaces(dice)
		var all []int
		for node := -1; node <= api.MaxNode+1; node++ {
			var places []int
			var spans []api.Span
			keeps := false
			for i, s := range l {
				if slices.Contains(s.Nodes, node) {
					places, spans = append(places, i), append(spans, s.Span)
					keeps = keeps || slices.Contains(shards, i)
				}
			}
			if keeps {
				all = append(all, node)
			}
			wantList(t, "Of", topo.Of(l, node), places...)
			wantSpans(t, "Owned", topo.Owned(l, node), span.Union(spans...))
			if got := topo.Keeps(l, node, shards...); got != keeps {
				t.Errorf("Keeps(%v, %d, %d): %v", l, node, shards, got)
			}
		}
		wantList(t, "Nodes", topo.Nodes(l, shards...), all...)
	}
}

// P4.5: of a shard's nodes, all that are as many as a quorum meet; with one less they need not, or are not more than half.
func TestTwoQuorumsMeet(t *testing.T) {
	for n := 1; n <= api.MaxReplicas; n++ {
		q := topo.Quorum(shard("", "", []int{1, 2, 3, 4, 5}[:n]...))
		for a := range 1 << n {
			for b := range 1 << n {
				if bits.OnesCount(uint(a)) == q && bits.OnesCount(uint(b)) == q && a&b == 0 {
					t.Errorf("%d of %d: %b and %b", q, n, a, b)
				}
			}
		}
		if q < 1 || q > n || 2*(q-1) > n {
			t.Errorf("%d of %d", q, n)
		}
	}
}

// wrongRows is topologies that may not be, of many kinds.
func wrongRows() [][]api.Shard {
	many := slices.Repeat([]api.Shard{shard("b", "a", 9, -1, 1, 1)}, 100)
	crowd := slices.Repeat([]int{3, math.MaxInt, math.MinInt, 0, 8}, 100)
	return [][]api.Shard{
		nil, {}, {{}}, {{}, {}}, {shard("a", "", 1)}, {shard("", "m", 1)}, {shard("", "m", 2), shard("n", "", 3)},
		{shard("", "n", 2), shard("m", "", 3)}, {shard("", "", 1), shard("", "", 2)}, {shard("m", "m", 1)}, {shard("m", "a", 1, 2)},
		{shard("", "", 0)}, {shard("", "", -1, 8)}, {shard("", "", 2, 1)}, {shard("", "", 1, 1)}, {shard("", "", crowd...)},
		{shard("m", "", 1), shard("", "m", 1)}, {shard("", long(1000), 1), shard(long(1000), "", 1)}, many,
	}
}

// P4.1, rule 1: of a topology that may not be all calls answer, and the same again.
func TestWrongTopologiesAreAnswered(t *testing.T) {
	for _, l := range wrongRows() {
		wantTopo(t, "wrong", l)
		for _, node := range []int{math.MinInt, -1, 0, 1, 2, 7, 8, 9, math.MaxInt} {
			wantList(t, "Of", topo.Of(l, node), topo.Of(l, node)...)
			wantSpans(t, "Owned", topo.Owned(l, node), topo.Owned(l, node))
			for _, shards := range [][]int{nil, {0}, {-1, 0, 1, 99, 100}, {math.MinInt, math.MaxInt}} {
				if topo.Keeps(l, node, shards...) != topo.Keeps(l, node, shards...) {
					t.Errorf("Keeps(%v, %d, %d)", l, node, shards)
				}
				wantList(t, "Nodes", topo.Nodes(l, shards...), topo.Nodes(l, shards...)...)
			}
		}
		for _, k := range []string{"", "a", "m", "z", "\xff", long(1000)} {
			if topo.Find(l, k) != topo.Find(l, k) {
				t.Errorf("Find(%v, %q)", l, k)
			}
			for _, set := range [][]api.Span{nil, of("", ""), of(k, "n"), of("n", k, "", "", "b", "a")} {
				wantList(t, "Touch", topo.Touch(l, set), topo.Touch(l, set)...)
			}
		}
		for _, s := range append(l, shard("", "")) {
			if topo.Quorum(s) != topo.Quorum(s) {
				t.Errorf("Quorum(%v)", s)
			}
		}
	}
}

// Rule 1: sets that are no sets are answered, too.
func TestTouchOfWhatIsNoSet(t *testing.T) {
	dice := dice(9)
	for range 1000 {
		l, spans := anyRow(dice), anySpans(dice)
		wantList(t, "Touch", topo.Touch(l, spans), topo.Touch(l, spans)...)
	}
}
