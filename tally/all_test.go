package tally_test

import (
	"math"
	"slices"
	"strings"
	"testing"

	"folkmoot/api"
	"folkmoot/tally"
	"folkmoot/topo"
)

// dice answers numbers from 0 on and below n, the same ones in every run.
func dice(seed uint64) func(n int) int {
	return func(n int) int {
		seed = seed*6364136223846793005 + 1442695040888963407
		return int(seed >> 33 % uint64(n))
	}
}

// crowd is the nodes whose bits are set: node 1 is the lowest one.
func crowd(bits int) []int {
	var nodes []int
	for n := 1; n <= api.MaxNode; n++ {
		if bits>>(n-1)&1 == 1 {
			nodes = append(nodes, n)
		}
	}
	return nodes
}

// anyRow is a topology that may be.
func anyRow(t *testing.T, dice func(int) int) []api.Shard {
	t.Helper()
	var l []api.Shard
	from := ""
	for i := range 1 + dice(api.MaxShards) {
		nodes := crowd(1 + dice(1<<api.MaxNode-1))
		for len(nodes) > api.MaxReplicas {
			nodes = slices.Delete(nodes, 0, 1)
		}
		to := string(rune('a' + i))
		l = append(l, shard(from, to, nodes...))
		from = to
	}
	l[len(l)-1].Span.To = ""
	if err := topo.Check(l); err != api.OK {
		t.Fatalf("Check(%v): %d", l, err)
	}
	return l
}

// anyPlaces is a few places, some of which are none.
func anyPlaces(dice func(int) int) []int {
	var l []int
	for range dice(6) {
		l = append(l, dice(api.MaxShards+4)-2)
	}
	return l
}

// shuffled is the nodes in any order.
func shuffled(dice func(int) int, nodes []int) []int {
	l := slices.Clone(nodes)
	for i := range l {
		j := dice(i + 1)
		l[i], l[j] = l[j], l[i]
	}
	return l
}

// common is the nodes of both lists.
func common(a, b []int) []int {
	return slices.DeleteFunc(slices.Clone(a), func(n int) bool { return !slices.Contains(b, n) })
}

// told is what a tally of these shards tells, reckoned shard by shard, when these nodes have answered.
func told(l []api.Shard, shards, nodes []int) (truths, []int, []int) {
	want := truths{true, true, true}
	var done, waiting []int
	for i, s := range l {
		if !slices.Contains(shards, i) {
			continue
		}
		got := common(s.Nodes, nodes)
		want.quorum = want.quorum && 2*len(got) > len(s.Nodes)
		want.all = want.all && len(got) == len(s.Nodes)
		want.each = want.each && len(got) > 0
		done = append(done, got...)
		for _, n := range s.Nodes {
			if !slices.Contains(nodes, n) {
				waiting = append(waiting, n)
			}
		}
	}
	slices.Sort(done)
	slices.Sort(waiting)
	return want, slices.Compact(done), slices.Compact(waiting)
}

// P5.1 to P5.4: any topology, any places, and answers in any order, some of them twice, some of nodes that are not asked.
func TestAnyTally(t *testing.T) {
	dice := dice(11)
	for range 3000 {
		l, shards := anyRow(t, dice), anyPlaces(dice)
		x := tally.New(l, shards...)
		var nodes []int
		for range dice(14) {
			n := dice(api.MaxNode+4) - 1
			_, before, waiting := told(l, shards, nodes)
			wantAdd(t, "any", x, n, slices.Contains(waiting, n) && !slices.Contains(before, n))
			nodes = append(nodes, n)
			want, done, waiting := told(l, shards, nodes)
			wantTruths(t, "any", x, want)
			wantWho(t, "any", x, done, waiting)
		}
	}
}

// P5.4: each set of nodes, of all shards and of some.
func TestEachCrowd(t *testing.T) {
	for _, shards := range [][]int{{0}, {1}, {2}, {3}, {0, 1}, {1, 2}, {0, 3}, {1, 2, 3}, {0, 1, 2, 3}} {
		for bits := range 1 << api.MaxNode {
			x := answered(four(), shards, crowd(bits)...)
			want, done, waiting := told(four(), shards, crowd(bits))
			wantTruths(t, "each crowd", x, want)
			wantWho(t, "each crowd", x, done, waiting)
		}
	}
}

// P5.5: each two tallies of the same shards that have a quorum have a node in common in each of these.
func TestTwoQuorumsMeet(t *testing.T) {
	dice := dice(13)
	rows := [][]api.Shard{two(), four()}
	for range 20 {
		rows = append(rows, anyRow(t, dice))
	}
	for _, l := range rows {
		shards := anyPlaces(dice)
		var quorums [][]int
		for bits := range 1 << api.MaxNode {
			if x := answered(l, shards, crowd(bits)...); x.Quorum() {
				quorums = append(quorums, x.Nodes())
			}
		}
		for _, a := range quorums {
			for _, b := range quorums {
				for i, s := range l {
					if slices.Contains(shards, i) && len(common(common(a, b), s.Nodes)) == 0 {
						t.Fatalf("%v at %d: %d and %d", l, shards, a, b)
					}
				}
			}
		}
	}
}

// P5.5: the order has no part, nor has who answers twice; who has answered once has answered for ever.
func TestTheOrderHasNoPart(t *testing.T) {
	dice := dice(17)
	for range 500 {
		l, shards := anyRow(t, dice), anyPlaces(dice)
		nodes := crowd(dice(1 << api.MaxNode))
		x := answered(l, shards, nodes...)
		for range 4 {
			y := tally.New(l, shards...)
			var old truths
			for i, n := range append(shuffled(dice, nodes), shuffled(dice, nodes)...) {
				before := y.Nodes()
				wantAdd(t, "any order", y, n, i < len(nodes) && topo.Keeps(l, n, shards...))
				now := truths{y.Quorum(), y.All(), y.Each()}
				if len(common(before, y.Nodes())) != len(before) || old.quorum && !now.quorum || old.all && !now.all || old.each && !now.each {
					t.Fatalf("%d: was %d, %v, is %d, %v", n, before, old, y.Nodes(), now)
				}
				old = now
			}
			wantWho(t, "any order", y, x.Nodes(), x.Waiting())
			wantTruths(t, "any order", y, truths{x.Quorum(), x.All(), x.Each()})
		}
	}
}

// wrongRows is topologies that may not be, of many kinds.
func wrongRows() [][]api.Shard {
	long := strings.Repeat("k", 1000)
	return [][]api.Shard{
		nil, {}, {{}}, {{}, {}}, {shard("a", "", 1)}, {shard("", "m", 1)}, {shard("", "m", 2), shard("n", "", 3)},
		{shard("", "n", 2), shard("m", "", 3)}, {shard("", "", 1), shard("", "", 2)}, {shard("m", "a", 1, 2)}, {shard("", long, 1), shard(long, "", 1)},
		{shard("", "")}, {shard("", "m"), shard("m", "", 1, 2)}, {shard("", "", 0)}, {shard("", "", -1, 8)}, {shard("", "m", 1, 2), shard("m", "", 9)},
		{shard("", "", 2, 1)}, {shard("", "", 1, 1)}, {shard("", "", 5, 4, 3, 3, 4, 5)}, {shard("", "", 1, 2, 3, 4, 5, 6, 7)},
		{shard("", "", math.MaxInt, math.MinInt, 3)}, {shard("", "", slices.Repeat([]int{3, math.MaxInt, math.MinInt, 0, 8}, 100)...)},
		slices.Repeat([]api.Shard{shard("b", "a", 9, -1, 1, 1)}, 100),
	}
}

// P5.1, rule 1: of topologies that may not be all calls answer, and the same again.
func TestWrongTopologiesAreAnswered(t *testing.T) {
	for _, l := range wrongRows() {
		if topo.Check(l) == api.OK {
			t.Errorf("Check(%v): OK", l)
		}
		for _, shards := range [][]int{nil, {0}, {1, 0, 1}, {-1, 0, 1, 99, 100}, {math.MinInt, math.MaxInt}} {
			x, same := tally.New(l, shards...), tally.New(l, shards...)
			if x == nil || same == nil {
				t.Fatalf("New(%v, %d): nil", l, shards)
			}
			for _, n := range append(strange(first(api.MaxNode)...), 1, 3, 9) {
				wantAdd(t, "wrong", x, n, same.Add(n))
				wantTruths(t, "wrong", x, truths{same.Quorum(), same.All(), same.Each()})
				if x.Has(n) != same.Has(n) || !slices.Equal(x.Nodes(), same.Nodes()) || !slices.Equal(x.Waiting(), same.Waiting()) {
					t.Errorf("%v at %d: %d", l, shards, n)
				}
			}
		}
	}
}
