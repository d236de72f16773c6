package tally_test

import (
	"math"
	"slices"
	"testing"

	"folkmoot/api"
	"folkmoot/tally"
)

// shard is a shard of the keys from one text on and below another one.
func shard(from, to string, nodes ...int) api.Shard {
	return api.Shard{Span: api.Span{From: from, To: to}, Nodes: nodes}
}

// two is the chapter's shards: node 3 is in both, nodes 6 and 7 are in none.
func two() []api.Shard { return []api.Shard{shard("", "m", 1, 2, 3), shard("m", "", 3, 4, 5)} }

// four is shards of one node, of even and of odd numbers of nodes; node 7 is in none.
func four() []api.Shard {
	return []api.Shard{shard("", "f", 2), shard("f", "k", 1, 3), shard("k", "p", 1, 2, 3, 4), shard("p", "", 1, 3, 4, 5, 6)}
}

// first is the nodes from 1 to n.
func first(n int) []int { return []int{1, 2, 3, 4, 5, 6, 7}[:n] }

// answered is a tally over these shards, of which these nodes have answered.
func answered(l []api.Shard, shards []int, nodes ...int) *tally.Tally {
	x := tally.New(l, shards...)
	for _, n := range nodes {
		x.Add(n)
	}
	return x
}

// truths is what Quorum, All and Each tell.
type truths struct{ quorum, all, each bool }

func wantTruths(t *testing.T, what string, x *tally.Tally, want truths) {
	t.Helper()
	if got := (truths{x.Quorum(), x.All(), x.Each()}); got != want {
		t.Errorf("%s: %d have answered, %d not: %v, want %v", what, x.Nodes(), x.Waiting(), got, want)
	}
}

// wantWho asks who has answered, and who has not; nobody else has.
func wantWho(t *testing.T, what string, x *tally.Tally, nodes, waiting []int) {
	t.Helper()
	if got := x.Nodes(); !slices.Equal(got, nodes) {
		t.Errorf("%s: Nodes: %d, want %d", what, got, nodes)
	}
	if got := x.Waiting(); !slices.Equal(got, waiting) {
		t.Errorf("%s: Waiting: %d, want %d", what, got, waiting)
	}
	for _, n := range strange(first(api.MaxNode)...) {
		if got := x.Has(n); got != slices.Contains(nodes, n) {
			t.Errorf("%s: Has(%d): %v", what, n, got)
		}
	}
}

// strange is these nodes, and numbers that are no node's.
func strange(nodes ...int) []int {
	return append(slices.Clone(nodes), 0, -1, -2, api.MaxNode+1, api.MaxNode+2, 64, math.MaxInt, math.MinInt, 1<<32+1, 1<<32+3)
}

func wantAdd(t *testing.T, what string, x *tally.Tally, node int, want bool) {
	t.Helper()
	if got := x.Add(node); got != want {
		t.Errorf("%s: Add(%d): %v, want %v", what, node, got, want)
	}
}

// P5.2, P5.3, P5.4
func TestTheChaptersExample(t *testing.T) {
	x := tally.New(two(), 0, 1)
	wantTruths(t, "nobody", x, truths{})
	wantAdd(t, "the first", x, 2, true)
	wantTruths(t, "2", x, truths{})
	wantAdd(t, "the second", x, 3, true)
	wantTruths(t, "2, 3", x, truths{each: true})
	wantAdd(t, "the third", x, 4, true)
	wantTruths(t, "2, 3, 4", x, truths{quorum: true, each: true})
	wantWho(t, "2, 3, 4", x, []int{2, 3, 4}, []int{1, 5})
	wantAdd(t, "the fourth", x, 1, true)
	wantTruths(t, "all but 5", x, truths{quorum: true, each: true})
	wantAdd(t, "the last", x, 5, true)
	wantTruths(t, "all", x, truths{true, true, true})
	wantWho(t, "all", x, []int{1, 2, 3, 4, 5}, nil)
}

// P5.1, P5.3, P5.4
func TestNewIsATallyOfWhichNobodyHasAnswered(t *testing.T) {
	cases := []struct{ shards, nodes []int }{
		{[]int{0}, []int{2}}, {[]int{1}, []int{1, 3}}, {[]int{2}, []int{1, 2, 3, 4}}, {[]int{3}, []int{1, 3, 4, 5, 6}},
		{[]int{0, 1}, []int{1, 2, 3}}, {[]int{1, 0}, []int{1, 2, 3}}, {[]int{1, 3}, []int{1, 3, 4, 5, 6}}, {[]int{3, 0}, []int{1, 2, 3, 4, 5, 6}},
		{[]int{0, 1, 2, 3}, []int{1, 2, 3, 4, 5, 6}}, {[]int{3, 1, 0, 2}, []int{1, 2, 3, 4, 5, 6}},
	}
	for _, c := range cases {
		x := tally.New(four(), c.shards...)
		wantWho(t, "new", x, nil, c.nodes)
		wantTruths(t, "new", x, truths{})
	}
}

// P5.1: places that are none have no part, and those that are there twice are there once.
func TestPlacesCountOnceAndOnlyWhereAShardIs(t *testing.T) {
	cases := []struct{ shards, same []int }{
		{[]int{0, 0}, []int{0}}, {[]int{1, 0, 1}, []int{0, 1}}, {[]int{3, 3, 3, 3, 3}, []int{3}}, {[]int{2, 1, 2, 1, 2, 1}, []int{1, 2}},
		{[]int{-1, 0}, []int{0}}, {[]int{1, 4}, []int{1}}, {[]int{4, 3, -1}, []int{3}}, {[]int{-4, 1, 5, 1, 100}, []int{1}},
		{[]int{math.MinInt, 2, math.MaxInt, 0}, []int{0, 2}}, {[]int{-1}, nil}, {[]int{4}, nil}, {[]int{-1, -1, 4, 4}, nil},
		{[]int{math.MinInt, math.MaxInt}, nil}, {[]int{1 << 32, 1<<32 + 1}, nil}, {slices.Repeat([]int{3, 0, -7, 9}, 1000), []int{0, 3}},
	}
	for _, c := range cases {
		x, same := tally.New(four(), c.shards...), tally.New(four(), c.same...)
		for _, n := range append(strange(), 0, 5, 3, 2, 7, 1, 4, 6) {
			wantAdd(t, "as well", x, n, same.Add(n))
			wantWho(t, "as well", x, same.Nodes(), same.Waiting())
			wantTruths(t, "as well", x, truths{same.Quorum(), same.All(), same.Each()})
		}
	}
}

// P5.1, P5.4
func TestWithoutShardsAllIsTrue(t *testing.T) {
	for _, shards := range [][]int{nil, {}, {-1}, {2}, {-1, 2, math.MaxInt, math.MinInt}} {
		x := tally.New(two(), shards...)
		for _, n := range strange(first(api.MaxNode)...) {
			wantTruths(t, "without shards", x, truths{true, true, true})
			wantAdd(t, "without shards", x, n, false)
		}
		wantWho(t, "without shards", x, nil, nil)
		wantTruths(t, "without shards", x, truths{true, true, true})
	}
}

// P5.2: nothing is changed by a node that is in none of the shards, or that has answered.
func TestAddTakesEachNodeOfTheShardsOnce(t *testing.T) {
	cases := []struct{ shards, nodes []int }{
		{[]int{0}, []int{2}}, {[]int{1}, []int{1, 3}}, {[]int{2}, []int{1, 2, 3, 4}}, {[]int{3}, []int{1, 3, 4, 5, 6}},
		{[]int{0, 1}, []int{1, 2, 3}}, {[]int{1, 3}, []int{1, 3, 4, 5, 6}}, {[]int{0, 1, 2, 3}, []int{1, 2, 3, 4, 5, 6}},
	}
	for _, c := range cases {
		x := tally.New(four(), c.shards...)
		for i, n := range append(slices.Clone(c.nodes), 0) {
			done, waiting := c.nodes[:i], c.nodes[i:]
			before := truths{x.Quorum(), x.All(), x.Each()}
			for _, other := range strange(first(api.MaxNode)...) {
				if !slices.Contains(waiting, other) {
					wantAdd(t, "not new", x, other, false)
				}
			}
			wantWho(t, "those that were not new", x, done, waiting)
			wantTruths(t, "those that were not new", x, before)
			wantAdd(t, "the next one", x, n, i < len(c.nodes))
		}
		wantWho(t, "all", x, c.nodes, nil)
	}
}

// P5.3
func TestNodesAndWaitingRise(t *testing.T) {
	x := tally.New(four(), 3, 0)
	wants := []struct {
		node           int
		nodes, waiting []int
	}{
		{6, []int{6}, []int{1, 2, 3, 4, 5}}, {2, []int{2, 6}, []int{1, 3, 4, 5}}, {4, []int{2, 4, 6}, []int{1, 3, 5}},
		{1, []int{1, 2, 4, 6}, []int{3, 5}}, {5, []int{1, 2, 4, 5, 6}, []int{3}}, {3, []int{1, 2, 3, 4, 5, 6}, nil},
	}
	for _, w := range wants {
		wantAdd(t, "new", x, w.node, true)
		wantWho(t, "rising", x, w.nodes, w.waiting)
	}
	wantAdd(t, "again", x, 6, false)
	wantWho(t, "again", x, []int{1, 2, 3, 4, 5, 6}, nil)
}

// P5.4: one shard of each size, of which each number of nodes has answered.
func TestOneShard(t *testing.T) {
	quorums := []int{1: 1, 2: 2, 3: 2, 4: 3, 5: 3}
	for n := 1; n <= api.MaxReplicas; n++ {
		l := []api.Shard{shard("", "", first(n)...)}
		for some := range n + 1 {
			want := truths{quorum: some >= quorums[n], all: some == n, each: some >= 1}
			wantTruths(t, "the first ones", answered(l, []int{0}, first(some)...), want)
			wantTruths(t, "the last ones", answered(l, []int{0}, first(n)[n-some:]...), want)
			wantTruths(t, "twice", answered(l, []int{0, 0}, slices.Repeat(first(some), 2)...), want)
		}
	}
}

// P5.4
func TestSeveralShards(t *testing.T) {
	apart := []api.Shard{shard("", "m", 1, 2, 3), shard("m", "", 4, 5)}
	cases := []struct {
		what   string
		l      []api.Shard
		shards []int
		nodes  []int
		want   truths
	}{
		{"nobody", four(), []int{0, 1, 2, 3}, nil, truths{}},
		{"one node", four(), []int{0, 1, 2, 3}, []int{2}, truths{}},
		{"one node of each", four(), []int{1, 2, 3}, []int{1}, truths{each: true}},
		{"each but one", four(), []int{0, 1, 2, 3}, []int{1, 3, 4, 5, 6}, truths{}},
		{"each", four(), []int{0, 1, 2, 3}, []int{2, 3}, truths{each: true}},
		{"one less than a quorum, in one", four(), []int{0, 1, 2, 3}, []int{2, 4, 3, 5, 6}, truths{each: true}},
		{"just a quorum of each", four(), []int{0, 1, 2, 3}, []int{1, 2, 3, 4}, truths{quorum: true, each: true}},
		{"all but one", four(), []int{0, 1, 2, 3}, []int{1, 2, 3, 4, 6}, truths{quorum: true, each: true}},
		{"all", four(), []int{0, 1, 2, 3}, []int{1, 2, 3, 4, 5, 6}, truths{true, true, true}},
		{"all of one", apart, []int{0, 1}, []int{1, 2, 3}, truths{}},
		{"all of the other one", apart, []int{0, 1}, []int{4, 5}, truths{}},
		{"all of one, one of the other one", apart, []int{0, 1}, []int{1, 2, 3, 5}, truths{each: true}},
		{"a quorum of all nodes, not of each shard", apart, []int{0, 1}, []int{3, 4, 5}, truths{each: true}},
		{"a quorum of each", apart, []int{0, 1}, []int{1, 3, 4, 5}, truths{quorum: true, each: true}},
		{"a quorum of one, of which alone is asked", apart, []int{0}, []int{1, 3}, truths{quorum: true, each: true}},
		{"all of one, of which alone is asked", apart, []int{1}, []int{4, 5}, truths{true, true, true}},
		{"those of the other one alone", apart, []int{0}, []int{4, 5}, truths{}},
		{"the common node", two(), []int{0, 1}, []int{3}, truths{each: true}},
		{"a quorum that has no common node", two(), []int{0, 1}, []int{1, 2, 4, 5}, truths{quorum: true, each: true}},
		{"a quorum of the first one", two(), []int{0, 1}, []int{1, 3}, truths{each: true}},
		{"a quorum of the second one", two(), []int{0, 1}, []int{4, 5}, truths{}},
	}
	for _, c := range cases {
		wantTruths(t, c.what, answered(c.l, c.shards, c.nodes...), c.want)
	}
}

// P5.4
func TestNilTally(t *testing.T) {
	var x *tally.Tally
	for _, n := range strange(first(api.MaxNode)...) {
		wantAdd(t, "nil", x, n, false)
	}
	wantWho(t, "nil", x, nil, nil)
	wantTruths(t, "nil", x, truths{})
}
