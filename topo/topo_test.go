package topo_test

import (
	"math"
	"slices"
	"strings"
	"testing"

	"folkmoot/api"
	"folkmoot/topo"
)

// of is spans of pairs of texts.
func of(edges ...string) []api.Span {
	var l []api.Span
	for i := 0; i < len(edges); i += 2 {
		l = append(l, api.Span{From: edges[i], To: edges[i+1]})
	}
	return l
}

// three is shards that keep [, f), [f, p) and [p, ); node 3 has all, node 7 none.
func three() []api.Shard {
	return []api.Shard{shard("", "f", 1, 2, 3), shard("f", "p", 3, 4), shard("p", "", 1, 3, 4, 5, 6)}
}

func wantList(t *testing.T, what string, got []int, want ...int) {
	t.Helper()
	if !slices.Equal(got, want) {
		t.Errorf("%s: got %d, want %d", what, got, want)
	}
}

func wantSpans(t *testing.T, what string, got, want []api.Span) {
	t.Helper()
	if !slices.Equal(got, want) {
		t.Errorf("%s: got %q, want %q", what, got, want)
	}
}

// P4.2
func TestFindIsTheShardInWhoseSpanAKeyIs(t *testing.T) {
	places := [][]string{
		{"", "\x00", "a", "ez", "e\xff\xff", "A", "e" + strings.Repeat("\xff", 2*api.MaxKey)},
		{"f", "f\x00", "foo", "o", "ozzz", "f" + long(api.MaxKey), "o\xff"},
		{"p", "p\x00", "q", "zz", "\x7f", "\x80", "\xff", strings.Repeat("\xff", 1000), "ö"},
	}
	for want, keys := range places {
		for _, k := range keys {
			if got := topo.Find(three(), k); got != want {
				t.Errorf("Find(%q): %d, want %d", k, got, want)
			}
			if got := topo.Find(row(), k); got != 0 {
				t.Errorf("Find(%q) in one shard: %d", k, got)
			}
		}
	}
	l := []api.Shard{shard("", "m", 1, 2, 3), shard("m", "", 3, 4, 5)}
	if topo.Find(l, "k") != 0 || topo.Find(l, "m") != 1 || topo.Find(l, "lz") != 0 {
		t.Error("the chapter's")
	}
}

// P4.2
func TestFindInMaxShards(t *testing.T) {
	parts := letters(api.MaxShards - 1)
	l := row(parts...)
	for i, part := range parts {
		if got := topo.Find(l, part); got != i+1 {
			t.Errorf("the front of a span: Find(%q): %d, want %d", part, got, i+1)
		}
		end := string(part[0]-1) + "\xff"
		if got := topo.Find(l, end); got != i {
			t.Errorf("the end of a span: Find(%q): %d, want %d", end, got, i)
		}
	}
}

// P4.2
func TestTouchIsTheShardsThatMeetTheSet(t *testing.T) {
	far := long(2 * api.MaxKey)
	cases := []struct {
		what string
		set  []api.Span
		want []int
	}{
		{"nil", nil, nil},
		{"none", []api.Span{}, nil},
		{"all", of("", ""), []int{0, 1, 2}},
		{"within the first", of("a", "b"), []int{0}},
		{"within the second", of("g", "h"), []int{1}},
		{"within the last", of("q", "r"), []int{2}},
		{"just the first", of("", "f"), []int{0}},
		{"just the second", of("f", "p"), []int{1}},
		{"just the last", of("p", ""), []int{2}},
		{"up to an edge", of("a", "f"), []int{0}},
		{"one text across an edge", of("a", "f\x00"), []int{0, 1}},
		{"from an edge on", of("f", "g"), []int{1}},
		{"from one text ahead of it", of("e\xff", "g"), []int{0, 1}},
		{"the text at an edge", of("f", "f\x00"), []int{1}},
		{"the text at the other edge", of("p", "p\x00"), []int{2}},
		{"around an edge", of("a", "f", "f\x00", "g"), []int{0, 1}},
		{"all but the edges", of("", "f", "f\x00", "p", "p\x00", ""), []int{0, 1, 2}},
		{"across one", of("e", "q"), []int{0, 1, 2}},
		{"the first, and the last", of("a", "b", "x", "y"), []int{0, 2}},
		{"one twice", of("a", "b", "c", "d"), []int{0}},
		{"each", of("a", "b", "g", "h", "q", "r"), []int{0, 1, 2}},
		{"the first text", of("", "\x00"), []int{0}},
		{"without an end", of("g", ""), []int{1, 2}},
		{"without an end, far behind", of("\xff", ""), []int{2}},
		{"long ones", of("a"+far, "b"+far, "g"+far, "h"), []int{0, 1}},
	}
	for _, c := range cases {
		wantList(t, c.what, topo.Touch(three(), c.set), c.want...)
		if len(c.set) > 0 {
			wantList(t, c.what+", in one shard", topo.Touch(row(), c.set), 0)
		}
	}
	wantList(t, "none, in one shard", topo.Touch(row(), nil))
	wantList(t, "all of MaxShards", topo.Touch(row(letters(api.MaxShards-1)...), of("", "")), 0, 1, 2, 3, 4, 5, 6, 7)
}

// P4.3
func TestOfIsTheShardsThatHaveANode(t *testing.T) {
	wants := [][]int{1: {0, 2}, 2: {0}, 3: {0, 1, 2}, 4: {1, 2}, 5: {2}, 6: {2}, 7: nil}
	for node := 1; node <= api.MaxNode; node++ {
		wantList(t, "Of", topo.Of(three(), node), wants[node]...)
	}
	for _, node := range []int{0, -1, 8, 9, 64, math.MaxInt, math.MinInt} {
		wantList(t, "Of a node that may not be", topo.Of(three(), node))
		wantSpans(t, "Owned of a node that may not be", topo.Owned(three(), node), nil)
		if topo.Keeps(three(), node, 0, 1, 2) {
			t.Errorf("Keeps: node %d", node)
		}
	}
}

// P4.3
func TestOwnedIsTheSetOfANodesSpans(t *testing.T) {
	wants := [][]api.Span{
		1: of("", "f", "p", ""), 2: of("", "f"), 3: of("", ""), 4: of("f", ""), 5: of("p", ""), 6: of("p", ""), 7: nil,
	}
	for node := 1; node <= api.MaxNode; node++ {
		wantSpans(t, "Owned", topo.Owned(three(), node), wants[node])
	}
	l := []api.Shard{shard("", "m", 1, 2, 3), shard("m", "", 3, 4, 5)}
	wantSpans(t, "the chapter's", topo.Owned(l, 3), of("", ""))
	wantSpans(t, "half", topo.Owned(l, 2), of("", "m"))
	wantSpans(t, "all in one", topo.Owned([]api.Shard{shard("", "", 1, 7)}, 7), of("", ""))
	l = []api.Shard{shard("", "b", 1), shard("b", "c", 2), shard("c", "d", 2), shard("d", "e", 1), shard("e", "f", 2), shard("f", "", 1)}
	wantSpans(t, "some touch", topo.Owned(l, 2), of("b", "d", "e", "f"))
	wantSpans(t, "some lie apart", topo.Owned(l, 1), of("", "b", "d", "e", "f", ""))
}

// P4.3
func TestKeepsTellsWhetherOneOfTheShardsHasANode(t *testing.T) {
	cases := []struct {
		node   int
		shards []int
		want   bool
	}{
		{1, nil, false}, {3, []int{}, false}, {1, []int{0}, true}, {1, []int{1}, false}, {1, []int{2}, true},
		{1, []int{1, 2}, true}, {1, []int{2, 1}, true}, {1, []int{1, 1}, false}, {1, []int{0, 0}, true}, {2, []int{1, 2}, false},
		{2, []int{1, 2, 0}, true}, {3, []int{2}, true}, {5, []int{0, 1}, false}, {5, []int{0, 1, 2}, true}, {7, []int{0, 1, 2}, false},
		{3, []int{-1}, false}, {3, []int{3}, false}, {3, []int{-1, 3, math.MaxInt, math.MinInt}, false}, {3, []int{-1, 1}, true},
		{3, []int{3, 1, -1}, true}, {1, []int{-3, 1, 4, 5}, false}, {0, []int{0}, false}, {-1, []int{0, -1}, false}, {8, []int{2, 3}, false},
		{6, []int{2, 2, -1, 2}, true},
	}
	for _, c := range cases {
		if got := topo.Keeps(three(), c.node, c.shards...); got != c.want {
			t.Errorf("Keeps(%d, %d): %v", c.node, c.shards, got)
		}
	}
}

// P4.4
func TestNodesIsAllNodesOfTheShards(t *testing.T) {
	cases := []struct{ shards, want []int }{
		{nil, nil}, {[]int{}, nil}, {[]int{0}, []int{1, 2, 3}}, {[]int{1}, []int{3, 4}}, {[]int{2}, []int{1, 3, 4, 5, 6}},
		{[]int{0, 1}, []int{1, 2, 3, 4}}, {[]int{1, 0}, []int{1, 2, 3, 4}}, {[]int{1, 2}, []int{1, 3, 4, 5, 6}},
		{[]int{2, 1, 0}, []int{1, 2, 3, 4, 5, 6}}, {[]int{0, 1, 2}, []int{1, 2, 3, 4, 5, 6}}, {[]int{1, 1}, []int{3, 4}},
		{[]int{1, 0, 1, 0, 1}, []int{1, 2, 3, 4}}, {[]int{-1}, nil}, {[]int{3}, nil}, {[]int{math.MaxInt, math.MinInt, 7}, nil},
		{[]int{-1, 1, 3}, []int{3, 4}}, {[]int{3, 0, -2, 0}, []int{1, 2, 3}},
	}
	for _, c := range cases {
		wantList(t, "Nodes", topo.Nodes(three(), c.shards...), c.want...)
	}
	wantList(t, "all nodes", topo.Nodes([]api.Shard{shard("", "a", 6, 7), shard("a", "", 1, 2, 3, 4, 5)}, 0, 1), 1, 2, 3, 4, 5, 6, 7)
}

// P4.4
func TestQuorumIsMoreThanHalf(t *testing.T) {
	wants := []int{1: 1, 2: 2, 3: 2, 4: 3, 5: 3}
	for n := 1; n <= api.MaxReplicas; n++ {
		for first := 1; first+n <= api.MaxNode+1; first++ {
			var nodes []int
			for i := range n {
				nodes = append(nodes, first+i)
			}
			if got := topo.Quorum(shard("", "", nodes...)); got != wants[n] {
				t.Errorf("of %d: %d, want %d", nodes, got, wants[n])
			}
		}
	}
}
