package choose_test

import (
	"math"
	"slices"
	"testing"

	"folkmoot/api"
	"folkmoot/choose"
	"folkmoot/deps"
)

func at(time int64, node int) api.Stamp { return api.Stamp{Time: time, Node: node} }

// none is the zero Stamp.
func none() api.Stamp { return api.Stamp{} }

// id is the transaction's.
func id() api.Stamp { return at(5, 2) }

func dep(shard int, ids ...api.Stamp) api.Dep { return api.Dep{Shard: shard, Ids: ids} }

func on(l ...api.Dep) []api.Dep { return l }

func places(l ...int) []int { return l }

func told(l ...api.Told) []api.Told { return l }

func get(key string) api.Op { return api.Op{Kind: api.OpGet, Key: key} }

func put(key string) api.Op { return api.Op{Kind: api.OpPut, Key: key} }

func ops(l ...api.Op) []api.Op { return l }

func gone() api.Value { return api.Value{Gone: true} }

func value(at api.Stamp, d ...api.Dep) api.Value { return api.Value{At: at, Deps: d} }

func shard(from, to string, nodes ...int) api.Shard {
	return api.Shard{Span: api.Span{From: from, To: to}, Nodes: nodes}
}

// four is a topology of which the nodes 3, 4 and 5 have two shards each, and nobody has three.
func four() []api.Shard {
	return []api.Shard{shard("", "g", 1, 2, 3), shard("g", "n", 3, 4, 5), shard("n", "t", 4, 5), shard("t", "", 6)}
}

// first is told by a node that has seen the transaction for the first time.
func first(node int, d ...api.Dep) api.Told {
	return api.Told{Node: node, Ops: ops(put("a")), Vote: id(), Fast: true, Deps: d}
}

// late is told by a node with another vote, or one that was not given to the first coordinator.
func late(node int, fast bool, vote api.Stamp, d ...api.Dep) api.Told {
	return api.Told{Node: node, Ops: ops(put("a")), Vote: vote, Fast: fast, Deps: d}
}

func sameValue(a, b api.Value) bool {
	return a.Gone == b.Gone && a.At == b.At && deps.Same(a.Deps, b.Deps)
}

// turned is each of the orders of l that come by turning it round, and each of these from behind.
func turned(l []api.Told) [][]api.Told {
	orders := [][]api.Told{l}
	for n := range l {
		next := slices.Concat(l[n:], l[:n])
		orders = append(orders, next, slices.Clone(next))
		slices.Reverse(next)
	}
	return orders
}

// wantFast asks in several orders: of what is told, and of the places.
func wantFast(t *testing.T, what string, shards []int, l []api.Told, want ...api.Dep) {
	t.Helper()
	back := slices.Clone(shards)
	slices.Reverse(back)
	for _, l := range turned(l) {
		for _, shards := range [][]int{shards, back} {
			if got, ok := choose.Fast(four(), id(), shards, l); !ok || !sameValue(got, value(id(), want...)) {
				t.Errorf("%s: Fast of %v and %v: %v, %v, want %v", what, shards, l, got, ok, want)
			}
		}
	}
}

// wantSlow asks likewise, for no value.
func wantSlow(t *testing.T, what string, shards []int, l []api.Told) {
	t.Helper()
	for _, l := range turned(l) {
		if got, ok := choose.Fast(four(), id(), shards, l); ok || !sameValue(got, api.Value{}) {
			t.Errorf("%s: Fast of %v and %v: %v, %v", what, shards, l, got, ok)
		}
	}
}

// P12.2
func TestFastOfNoShards(t *testing.T) {
	lists := [][]api.Told{nil, {}, told(first(1)), told(late(1, false, at(9, 9), dep(0, at(1, 1))), first(2)), told(first(7, dep(3, at(1, 1))))}
	for _, l := range lists {
		wantFast(t, "nil", nil, l)
		wantFast(t, "an empty list", []int{}, l)
		wantFast(t, "places that are no shard's", places(-1, 4, 8, math.MaxInt, math.MinInt, -1, 1<<32), l)
	}
	for _, row := range [][]api.Shard{nil, {}} {
		if got, ok := choose.Fast(row, id(), places(0, 1), told(first(1))); !ok || !sameValue(got, value(id())) {
			t.Errorf("no topology: %v, %v", got, ok)
		}
	}
}

// P12.2
func TestFastLeavesOutPlacesThatAreNoShards(t *testing.T) {
	l := told(first(1, dep(0, at(1, 1)), dep(4, at(2, 1)), dep(7, at(3, 1))), first(6, dep(3, at(4, 1))))
	for _, wrong := range []int{-1, -4, 4, 5, 7, 8, math.MaxInt, math.MinInt, 1 << 32} {
		wantFast(t, "a place that is none", places(wrong), l)
		wantFast(t, "one, and one that is none", places(0, wrong), l, dep(0, at(1, 1)))
		wantFast(t, "two, and one that is none between", places(0, wrong, 3), l, dep(0, at(1, 1)), dep(3, at(4, 1)))
		wantSlow(t, "one that tells nothing, and one that is none", places(1, wrong), l)
	}
}

// P12.2
func TestFastTellsEachShardOnceAndRising(t *testing.T) {
	a, b, c := dep(0, at(1, 1)), dep(1, at(3, 1), at(4, 1)), dep(3)
	l := told(first(1, a), first(4, b, dep(2, at(2, 2))), first(6, c))
	wantFast(t, "rising", places(0, 1, 3), l, a, b, c)
	for _, shards := range [][]int{{3, 0, 1}, {1, 3, 0}, {0, 3, 1}, {3, 3, 1, 0, 0}, {0, 0, 1, 3, 1, 3}, {1, 1, 1, -1, 3, 9, 0, 1}} {
		wantFast(t, "in another order, or twice", shards, l, a, b, c)
	}
	wantFast(t, "one of them", places(1), l, b)
	wantFast(t, "one of them, twice", places(1, 1), l, b)
	wantFast(t, "two of them", places(3, 0, 3), l, a, c)
	wantFast(t, "all", places(3, 2, 1, 0), l, a, b, dep(2, at(2, 2)), c)
}

// P12.2
func TestFastAsksForANodeOfEachShard(t *testing.T) {
	a := dep(0, at(1, 1))
	for _, l := range [][]api.Told{nil, {}} {
		for place := range four() {
			wantSlow(t, "nobody tells", places(place), l)
		}
		wantSlow(t, "nobody tells of any", places(0, 1, 2, 3), l)
	}
	for _, n := range []int{1, 2, 3} {
		wantFast(t, "one node", places(0), told(first(n, a)), a)
	}
	wantFast(t, "two nodes", places(0), told(first(3, a), first(1, a)), a)
	wantFast(t, "all nodes", places(0), told(first(1, a), first(2, a), first(3, a)), a)
	wantFast(t, "one node of both", places(0, 1), told(first(3, a, dep(1, at(2, 1)))), a, dep(1, at(2, 1)))
	wantSlow(t, "all of another one", places(0), told(first(4), first(5)))
	wantSlow(t, "all of the one, nobody of the other one", places(0, 3), told(first(1), first(2), first(3)))
	wantSlow(t, "nobody of the first one", places(0, 1, 2), told(first(4), first(5)))
	wantSlow(t, "nobody of the last one", places(0, 1, 2, 3), told(first(1), first(3), first(4)))
	wantFast(t, "one of each", places(0, 1, 2, 3), told(first(3), first(4), first(6)), dep(0), dep(1), dep(2), dep(3))
}

// P12.1, P12.2
func TestFastAsksForTheFirstTime(t *testing.T) {
	a := dep(0, at(1, 1))
	wrong := []api.Told{
		late(2, false, id(), a), late(2, false, none(), a), late(2, true, none(), a),
		late(2, true, at(5, 3), a), late(2, true, at(6, 2), a), late(2, true, at(4, 2), a), late(2, true, at(5, 1), a), late(2, false, at(9, 2), a),
		{Node: 2, Vote: none(), Deps: on(a)}, {Node: 2},
	}
	for _, x := range wrong {
		wantSlow(t, "alone", places(0), told(x))
		wantSlow(t, "one of two", places(0), told(x, first(1, a)))
		wantSlow(t, "one of three", places(0), told(first(1, a), x, first(3, a)))
		wantSlow(t, "one, in one of two shards", places(3, 0), told(first(6), x, first(1, a)))
		wantFast(t, "one, in a shard that is not asked for", places(1, 3), told(x, first(6), first(4)), dep(1), dep(3))
		x.Node = 3
		wantSlow(t, "of two shards, and the other one has it too", places(1), told(x, first(4, a)))
		wantFast(t, "of two shards, of which none is asked for", places(2), told(x, first(4, a)), dep(2))
	}
	// What else is told has no part in it.
	x := api.Told{Node: 2, Vote: id(), Fast: true, Deps: on(a), Has: true, Ballot: at(9, 9), Value: gone()}
	wantFast(t, "without Ops, and with a value", places(0), told(x, first(1, a)), a)
}

// P12.1, P12.2
func TestFastAsksForTheSameIds(t *testing.T) {
	a, b, ab := at(1, 1), at(2, 1), dep(0, at(1, 1), at(2, 1))
	wantFast(t, "no Deps, all of them", places(0), told(first(1), first(2), first(3)), dep(0))
	wantFast(t, "a shard without Ids is none that is there", places(0), told(first(1), first(2, dep(0)), first(3, dep(1, a))), dep(0))
	wantFast(t, "unlike nodes, the same Ids", places(0), told(first(1, ab), first(2, ab), first(3, ab)), ab)
	wantFast(t, "the same Ids, in other places", places(1), told(first(3, dep(0, b), dep(1, a)), first(4, dep(1, a), dep(2))), dep(1, a))
	for _, other := range [][]api.Stamp{nil, {}, {a}, {b}, {a, at(2, 2)}, {at(1, 2), b}, {a, b, at(3, 1)}, {at(0, 1), a, b}, {a, at(3, 1)}} {
		wantSlow(t, "one of two", places(0), told(first(1, ab), first(2, dep(0, other...))))
		wantSlow(t, "the last one of three", places(0), told(first(1, ab), first(2, ab), first(3, dep(0, other...))))
		wantSlow(t, "in one of two shards", places(0, 1), told(first(1, ab, dep(1)), first(3, dep(0, other...), dep(1)), first(4, dep(1))))
		wantFast(t, "in a shard alone that is not asked for", places(1), told(first(1, ab), first(3, dep(0, other...), dep(1, b)), first(4, dep(1, b))), dep(1, b))
	}
	wantSlow(t, "the one has no Deps", places(0), told(first(1, ab), first(2)))
	wantSlow(t, "the same Ids, of another shard", places(0), told(first(1, ab), first(3, dep(1, a, b))))
}

// P12.1: of a shard they tell that have it, and nobody else.
func TestFastHearsTheNodesOfAShardAlone(t *testing.T) {
	a, b := at(1, 1), at(2, 1)
	wantFast(t, "another one tells other Ids of it", places(0), told(first(1, dep(0, a)), first(4, dep(0, b))), dep(0, a))
	wantFast(t, "each tells other Ids of the other one's", places(0, 2), told(first(1, dep(0, a), dep(2, b)), first(4, dep(0, b), dep(2, a))), dep(0, a), dep(2, a))
	wantFast(t, "one of two shards, of which only one differs in its own", places(1), told(first(3, dep(1, a), dep(2, a)), first(4, dep(1, a), dep(2, b))), dep(1, a))
	wantSlow(t, "it has two shards, and differs in the second one", places(1, 2), told(first(5, dep(1, a), dep(2, a)), first(4, dep(1, a), dep(2, b))))
	for _, node := range []int{7, 0, -1, 8, math.MaxInt, math.MinInt, 6, 4} {
		for _, x := range []api.Told{late(node, false, id(), dep(0, b)), late(node, true, at(9, 1), dep(0, a)), first(node, dep(0, b)), first(node), {Node: node}} {
			wantFast(t, "somebody who has none of the shards", places(0), told(x, first(1, dep(0, a)), first(2, dep(0, a))), dep(0, a))
			wantSlow(t, "nobody but one who has none of the shards", places(0), told(x))
		}
	}
}

// P12.2: a value holds no shards but those that are asked for, and no Ids but theirs.
func TestFastHoldsNothingElse(t *testing.T) {
	a, b, c := at(1, 1), at(2, 1), at(3, 1)
	l := told(
		first(3, dep(-1, c), dep(0, a), dep(1, b), dep(2, c), dep(3, c), dep(4, c), dep(7, c), dep(8, c), dep(math.MaxInt, c)),
		first(4, dep(math.MinInt, a), dep(0, c), dep(1, b), dep(2, a), dep(3, b)),
		first(7, dep(0, c), dep(1, c)),
	)
	wantFast(t, "one", places(0), l, dep(0, a))
	wantFast(t, "another one", places(1), l, dep(1, b))
	wantFast(t, "three, and places that are none", places(0, 1, 2, 4, 7, 8, -1), l, dep(0, a), dep(1, b), dep(2, a))
	// That they are many, or not below the Id, is nothing that is asked here.
	var many []api.Stamp
	for n := range api.MaxDeps {
		many = append(many, at(int64(n+1), 1))
	}
	wantFast(t, "as many as may be", places(0), told(first(1, dep(0, many...)), first(2, dep(0, many...))), dep(0, many...))
	wantSlow(t, "one fewer", places(0), told(first(1, dep(0, many...)), first(2, dep(0, many[1:]...))))
}

// P12.2: whatever the Id is.
func TestFastIsAtTheId(t *testing.T) {
	for _, id := range []api.Stamp{at(1, 1), at(1, 7), at(api.MaxTime, api.MaxNode), at(5, 3), none()} {
		x := api.Told{Node: 1, Vote: id, Fast: true, Deps: on(dep(0, at(1, 1)))}
		if got, ok := choose.Fast(four(), id, places(0), told(x)); !ok || !sameValue(got, value(id, dep(0, at(1, 1)))) {
			t.Errorf("Fast at %v: %v, %v", id, got, ok)
		}
		if got, ok := choose.Fast(four(), at(7, 7), places(0), told(x)); ok || !sameValue(got, api.Value{}) {
			t.Errorf("Fast at another Id than %v: %v, %v", id, got, ok)
		}
	}
}

func wantAt(t *testing.T, what string, l []api.Told, want api.Stamp) {
	t.Helper()
	for _, l := range turned(l) {
		if got := choose.At(l); got != want {
			t.Errorf("%s: At(%v): %v, want %v", what, l, got, want)
		}
	}
}

// P12.3
func TestAtIsTheGreatestVote(t *testing.T) {
	wantAt(t, "nobody", nil, none())
	wantAt(t, "an empty list", []api.Told{}, none())
	wantAt(t, "a zero vote", told(api.Told{Node: 1}), none())
	wantAt(t, "zero votes", told(api.Told{Node: 1}, api.Told{Node: 2}, api.Told{Node: 3}), none())
	wantAt(t, "one", told(late(1, true, at(7, 2))), at(7, 2))
	wantAt(t, "one that is not zero", told(api.Told{Node: 1}, late(2, false, at(1, 1)), api.Told{Node: 3}), at(1, 1))
	wantAt(t, "by the time", told(late(1, true, at(5, 7)), late(2, true, at(6, 1)), late(3, true, at(4, 7))), at(6, 1))
	wantAt(t, "by the node", told(late(1, true, at(5, 1)), late(2, true, at(5, 3)), late(3, true, at(5, 2))), at(5, 3))
	wantAt(t, "the same ones", told(first(1), first(2), first(3)), id())
	wantAt(t, "the greatest one there is", told(first(1), late(2, false, at(api.MaxTime, api.MaxNode))), at(api.MaxTime, api.MaxNode))
	x := api.Told{Node: 9, Ballot: at(9, 1), Has: true, Value: value(at(8, 1), dep(0, at(7, 1))), Vote: at(2, 1), Deps: on(dep(1, at(6, 1)))}
	wantAt(t, "a vote is no ballot, nor another time", told(x, late(1, true, at(3, 1))), at(3, 1))
}

func wantUnion(t *testing.T, what string, l []api.Told, want ...api.Dep) {
	t.Helper()
	for _, l := range turned(l) {
		if got := choose.Union(l); !deps.Same(got, want) {
			t.Errorf("%s: Union(%v): %v, want %v", what, l, got, want)
		}
	}
}

// P12.3
func TestUnionIsTheDepsOfAll(t *testing.T) {
	a, b, c := at(1, 1), at(2, 1), at(3, 1)
	wantUnion(t, "nobody", nil)
	wantUnion(t, "an empty list", []api.Told{})
	wantUnion(t, "nobody hangs on anything", told(first(1), first(2)))
	wantUnion(t, "one", told(first(1, dep(0, a), dep(3, b))), dep(0, a), dep(3, b))
	wantUnion(t, "the same ones", told(first(1, dep(0, a, b)), first(2, dep(0, a, b))), dep(0, a, b))
	wantUnion(t, "unlike Ids of one shard", told(first(1, dep(0, a)), first(2, dep(0, b, c)), first(3, dep(0, a, c))), dep(0, a, b, c))
	wantUnion(t, "unlike shards", told(first(4, dep(2, a)), first(1, dep(0, c)), first(3, dep(1, b))), dep(0, c), dep(1, b), dep(2, a))
	wantUnion(t, "both", told(first(3, dep(0, a), dep(1, c)), first(4, dep(1, b), dep(2, a))), dep(0, a), dep(1, b, c), dep(2, a))
	wantUnion(t, "a shard without Ids", told(first(1, dep(0)), first(2)), dep(0))
	wantUnion(t, "a shard without Ids, and one with some", told(first(1, dep(0)), first(2, dep(0, a)), first(4, dep(2))), dep(0, a), dep(2))
	wantUnion(t, "the same Id in two shards", told(first(1, dep(0, a)), first(4, dep(1, a))), dep(0, a), dep(1, a))
	x := api.Told{Node: 2, Deps: on(dep(0, a)), Has: true, Ballot: at(1, 1), Value: value(at(8, 1), dep(0, c))}
	wantUnion(t, "late ones too, but no values", told(late(1, false, at(9, 1), dep(0, b)), x), dep(0, a, b))
}
