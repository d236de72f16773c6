package topo_test

import (
	"slices"
	"testing"

	"folkmoot/api"
	"folkmoot/topo"
)

// kept is a list with spare room behind it, and what was on the array on which both lie.
type kept[T any] struct {
	list, whole, old []T
}

// roomy is a list that has these elements, and spare ones behind them.
func roomy[T any](l []T, spare ...T) kept[T] {
	whole := append(slices.Clone(l), spare...)
	return kept[T]{whole[:len(l)], whole, slices.Clone(whole)}
}

// wantKept asks whether a list, and its spare room, is as it was.
func wantKept[T comparable](t *testing.T, what string, k kept[T]) {
	t.Helper()
	if !slices.Equal(k.whole, k.old) {
		t.Errorf("%s: is %v, was %v", what, k.whole, k.old)
	}
}

func sameShards(a, b []api.Shard) bool {
	return slices.EqualFunc(a, b, func(a, b api.Shard) bool { return a.Span == b.Span && slices.Equal(a.Nodes, b.Nodes) })
}

// spoil writes into a list, and its spare room.
func spoil[T any](l []T, with T) {
	l = l[:cap(l)]
	for i := range l {
		l[i] = with
	}
}

// wantApart makes each two of the calls, one behind the other, and asks whether what the one answers changes with the other one.
func wantApart[T comparable](t *testing.T, with T, calls ...func() []T) {
	t.Helper()
	var want [][]T
	for _, call := range calls {
		want = append(want, slices.Clone(call()))
	}
	for i, call := range calls {
		for j, next := range calls {
			first, second := call(), next()
			if !slices.Equal(first, want[i]) || !slices.Equal(second, want[j]) {
				t.Errorf("%d, then %d: %v and %v, alone %v and %v", i, j, first, second, want[i], want[j])
			}
			spoil(first, with)
			if !slices.Equal(second, want[j]) {
				t.Errorf("%d changes %d: is %v, was %v", i, j, second, want[j])
			}
		}
	}
}

// Rule 3: what is handed in is not changed, its spare room neither; answers share nothing with it, nor with one another.
func TestAnswersLieApart(t *testing.T) {
	nodes := roomy([]int{1, 3, 5}, 7, 7)
	shards := roomy([]int{1, 0, 1, -1}, 0, 9)
	set := roomy(of("a", "b", "x", ""), of("spare", "tire")...)
	whole := append(three(), shard("spare", "tire", 7))
	l := whole[:3]
	l[0].Nodes = nodes.list
	old := append(three(), shard("spare", "tire", 7))
	old[0].Nodes = slices.Clone(nodes.list)

	topo.Check(l)
	topo.Find(l, "g")
	topo.Keeps(l, 3, shards.list...)
	topo.Quorum(l[0])
	wantApart(t, -7,
		func() []int { return topo.Touch(l, set.list) },
		func() []int { return topo.Touch(l, of("g", "h")) },
		func() []int { return topo.Of(l, 3) },
		func() []int { return topo.Of(l, 4) },
		func() []int { return topo.Nodes(l, shards.list...) },
		func() []int { return topo.Nodes(l, 0) },
	)
	wantApart(t, api.Span{From: "mine"},
		func() []api.Span { return topo.Owned(l, 1) },
		func() []api.Span { return topo.Owned(l, 2) },
		func() []api.Span { return topo.Owned(l, 3) },
	)

	wantKept(t, "a shard's nodes", nodes)
	wantKept(t, "the places", shards)
	wantKept(t, "the set", set)
	if !sameShards(whole, old) {
		t.Errorf("the topology: is %v, was %v", whole, old)
	}
}
