package deps_test

import (
	"math"
	"slices"
	"testing"

	"folkmoot/api"
	"folkmoot/deps"
)

func at(time int64, node int) api.Stamp { return api.Stamp{Time: time, Node: node} }

func dep(shard int, ids ...api.Stamp) api.Dep { return api.Dep{Shard: shard, Ids: ids} }

func list(d ...api.Dep) []api.Dep { return d }

// three is dependencies of which 2.1 is in two shards, and shard 4 has no Ids.
func three() []api.Dep {
	return list(dep(0, at(1, 1), at(2, 1), at(2, 3)), dep(4), dep(7, at(1, 2), at(2, 1), at(9, 1)))
}

// run is so many stamps, rising, from a time on.
func run(from, count int) []api.Stamp {
	var l []api.Stamp
	for i := range count {
		l = append(l, at(int64(from+i), 1+i%api.MaxNode))
	}
	return l
}

// same holds dependencies against each other by the test's own means.
func same(a, b []api.Dep) bool {
	if len(a) != len(b) {
		return false
	}
	for i := range a {
		if a[i].Shard != b[i].Shard || !slices.Equal(a[i].Ids, b[i].Ids) {
			return false
		}
	}
	return true
}

func wantDeps(t *testing.T, what string, got []api.Dep, want ...api.Dep) {
	t.Helper()
	if !same(got, want) {
		t.Errorf("%s: got %v, want %v", what, got, want)
	}
}

func wantIds(t *testing.T, what string, got []api.Stamp, want ...api.Stamp) {
	t.Helper()
	if !slices.Equal(got, want) {
		t.Errorf("%s: got %v, want %v", what, got, want)
	}
}

func wantCheck(t *testing.T, what string, d []api.Dep, want api.Errno) {
	t.Helper()
	if got := deps.Check(d); got != want {
		t.Errorf("%s: Check: %d, want %d", what, got, want)
	}
}

// P6.1
func TestCheckTakesDependencies(t *testing.T) {
	wantCheck(t, "nil", nil, api.OK)
	wantCheck(t, "no Deps", list(), api.OK)
	wantCheck(t, "three shards", three(), api.OK)
	wantCheck(t, "all shards, without Ids", full(0), api.OK)
	wantCheck(t, "all shards, with Ids", full(3), api.OK)
	for shard := range api.MaxShards {
		wantCheck(t, "a shard without Ids", list(dep(shard)), api.OK)
		wantCheck(t, "an empty list", list(api.Dep{Shard: shard, Ids: []api.Stamp{}}), api.OK)
		wantCheck(t, "the least and the greatest stamp", list(dep(shard, at(1, 1), at(api.MaxTime, api.MaxNode))), api.OK)
		wantCheck(t, "one time, rising nodes", list(dep(shard, at(5, 1), at(5, 2), at(5, 7))), api.OK)
	}
	wantCheck(t, "the same Id in two shards", list(dep(0, at(1, 1)), dep(1, at(1, 1))), api.OK)
	wantCheck(t, "Ids that rise in each shard alone", list(dep(0, at(9, 1)), dep(1, at(1, 1))), api.OK)
}

// full is all shards, with so many Ids each, the same ones.
func full(ids int) []api.Dep {
	var d []api.Dep
	for shard := range api.MaxShards {
		d = append(d, dep(shard, run(1, ids)...))
	}
	return d
}

// P6.1
func TestCheckCountsDeps(t *testing.T) {
	many := append(full(0), dep(api.MaxShards))
	wantCheck(t, "just MaxShards", many[:api.MaxShards], api.OK)
	wantCheck(t, "one more", many, api.ErrMany)
	wantCheck(t, "one more, of a shard that is there", append(full(0), dep(0)), api.ErrMany)
	wantCheck(t, "one more, of a shard below 0", append(list(dep(-1)), full(0)...), api.ErrMany)
	wantCheck(t, "one more, with a stamp that may not be", append(full(0), dep(api.MaxShards, at(0, 0))), api.ErrMany)
	wantCheck(t, "zeros", make([]api.Dep, api.MaxShards+1), api.ErrMany)
	wantCheck(t, "many", make([]api.Dep, 1000), api.ErrMany)
}

// P6.1
func TestCheckCountsIds(t *testing.T) {
	wantCheck(t, "just MaxDeps in one shard", list(dep(3, run(1, api.MaxDeps)...)), api.OK)
	wantCheck(t, "one more in one shard", list(dep(3, run(1, api.MaxDeps+1)...)), api.ErrMany)
	wantCheck(t, "many in one shard", list(dep(3, run(1, 5000)...)), api.ErrMany)
	wantCheck(t, "just MaxDeps, spread", full(api.MaxDeps/api.MaxShards), api.OK)
	for shard := range api.MaxShards {
		spread := full(api.MaxDeps / api.MaxShards)
		spread[shard].Ids = append(spread[shard].Ids, at(api.MaxTime, 1))
		wantCheck(t, "one more, spread", spread, api.ErrMany)
	}
	wantCheck(t, "just MaxDeps in two shards", list(dep(0, run(1, 500)...), dep(5, run(1, 12)...)), api.OK)
	wantCheck(t, "one more in two shards", list(dep(0, run(1, 500)...), dep(5, run(1, 13)...)), api.ErrMany)
	wantCheck(t, "one more, in the first shard", list(dep(0, run(1, 500)...), dep(5), dep(6, run(600, 13)...)), api.ErrMany)
}

// P6.1
func TestCheckRefusesShardsThatMayNotBe(t *testing.T) {
	for _, shard := range []int{-1, -2, api.MaxShards, api.MaxShards + 1, math.MaxInt, math.MinInt, 1 << 32} {
		wantCheck(t, "a shard that may not be", list(dep(shard)), api.ErrDeps)
		wantCheck(t, "a shard that may not be, with Ids", list(dep(shard, at(1, 1))), api.ErrDeps)
	}
	wantCheck(t, "below 0, then 0", list(dep(-1), dep(0)), api.ErrDeps)
	wantCheck(t, "the last one, then one more", list(dep(api.MaxShards-1), dep(api.MaxShards)), api.ErrDeps)
	wantCheck(t, "shards that fall", list(dep(1), dep(0)), api.ErrDeps)
	wantCheck(t, "shards that fall later", list(dep(0), dep(2), dep(1)), api.ErrDeps)
	wantCheck(t, "a shard twice", list(dep(1), dep(1)), api.ErrDeps)
	wantCheck(t, "a shard twice, with unlike Ids", list(dep(1, at(1, 1)), dep(1, at(2, 1))), api.ErrDeps)
	wantCheck(t, "a shard twice, at the end", list(dep(0), dep(7), dep(7)), api.ErrDeps)
}

// P6.1
func TestCheckRefusesIdsThatAreNoList(t *testing.T) {
	wrong := [][]api.Stamp{
		{at(2, 1), at(1, 1)}, {at(1, 2), at(1, 1)}, {at(1, 1), at(1, 1)}, {at(1, 1), at(2, 1), at(2, 1)}, {at(1, 1), at(3, 1), at(2, 7)},
		{{}}, {at(0, 1)}, {at(1, 0)}, {at(-1, 1)}, {at(1, -1)}, {at(api.MaxTime+1, 1)}, {at(1, api.MaxNode+1)}, {{}, at(1, 1)},
		{at(1, 1), at(api.MaxTime+1, 1)}, {at(math.MinInt64, math.MinInt), at(1, 1)}, {at(math.MaxInt64, math.MaxInt)},
	}
	for _, ids := range wrong {
		wantCheck(t, "alone", list(dep(0, ids...)), api.ErrDeps)
		wantCheck(t, "in the first one", list(dep(0, ids...), dep(1), dep(7, at(1, 1))), api.ErrDeps)
		wantCheck(t, "in the middle", list(dep(0), dep(1, ids...), dep(2)), api.ErrDeps)
		wantCheck(t, "in the last one", list(dep(0, at(1, 1)), dep(7, ids...)), api.ErrDeps)
	}
}

// P6.1: too many is told first, whatever else is wrong.
func TestCheckNamesTheFirstError(t *testing.T) {
	ids := run(1, api.MaxDeps+1)
	wantCheck(t, "too many Ids, of a shard below 0", list(dep(-1, ids...)), api.ErrMany)
	wantCheck(t, "too many Ids, of MaxShards", list(dep(api.MaxShards, ids...)), api.ErrMany)
	wantCheck(t, "too many Ids, behind a wrong shard", list(dep(9), dep(1, ids...)), api.ErrMany)
	wantCheck(t, "too many Ids, behind a wrong Id", list(dep(0, at(0, 0)), dep(1, ids...)), api.ErrMany)
	wantCheck(t, "too many zeros", list(dep(0, make([]api.Stamp, api.MaxDeps+1)...)), api.ErrMany)
	wantCheck(t, "too many in a shard that is there twice", list(dep(3, ids[:256]...), dep(3, ids[256:]...)), api.ErrMany)
	wantCheck(t, "just MaxDeps zeros", list(dep(0, make([]api.Stamp, api.MaxDeps)...)), api.ErrDeps)
	wantCheck(t, "just MaxShards zeros", make([]api.Dep, api.MaxShards), api.ErrDeps)
	falling := full(2)
	slices.Reverse(falling)
	wantCheck(t, "too many that fall", append(falling, dep(-1)), api.ErrMany)
	wantCheck(t, "just so many that fall", falling, api.ErrDeps)
}

// P6.2
func TestMakeIsOneShardWithItsIdsSorted(t *testing.T) {
	for _, shard := range []int{0, 3, api.MaxShards - 1} {
		wantDeps(t, "no ids", deps.Make(shard), dep(shard))
		wantDeps(t, "nil", deps.Make(shard, nil...), dep(shard))
		wantDeps(t, "one", deps.Make(shard, at(4, 2)), dep(shard, at(4, 2)))
		wantDeps(t, "rising", deps.Make(shard, at(1, 1), at(1, 2), at(2, 1)), dep(shard, at(1, 1), at(1, 2), at(2, 1)))
		wantDeps(t, "any order", deps.Make(shard, at(2, 1), at(1, 2), at(3, 1), at(1, 1)), dep(shard, at(1, 1), at(1, 2), at(2, 1), at(3, 1)))
		wantDeps(t, "twice", deps.Make(shard, at(2, 1), at(1, 2), at(2, 1), at(1, 2), at(1, 2)), dep(shard, at(1, 2), at(2, 1)))
		wantCheck(t, "what is made", deps.Make(shard, at(2, 1), at(1, 2), at(2, 1)), api.OK)
		wantCheck(t, "what is made of nothing", deps.Make(shard), api.OK)
		wantCheck(t, "what is made of an id that may not be", deps.Make(shard, at(2, 1), at(0, 2)), api.ErrDeps)
		wantDeps(t, "of an id that may not be", deps.Make(shard, at(2, 1), at(0, 2), at(2, 1)), dep(shard, at(0, 2), at(2, 1)))
	}
	for _, shard := range []int{-1, api.MaxShards, math.MinInt, math.MaxInt} {
		wantDeps(t, "of a shard that may not be", deps.Make(shard, at(2, 1), at(1, 1)), dep(shard, at(1, 1), at(2, 1)))
		wantCheck(t, "of a shard that may not be", deps.Make(shard, at(2, 1)), api.ErrDeps)
	}
}

// P6.2
func TestMergeIsEachShardWithTheIdsOfAll(t *testing.T) {
	a := list(dep(0, at(1, 1), at(5, 1)), dep(2))
	b := list(dep(0, at(3, 1), at(5, 1)), dep(1, at(1, 1)), dep(7, at(2, 2)))
	c := list(dep(2, at(4, 4)), dep(7, at(1, 1), at(2, 2), at(2, 3)))
	wantDeps(t, "nothing", deps.Merge())
	wantDeps(t, "nil", deps.Merge(nil))
	wantDeps(t, "empty ones", deps.Merge(nil, list(), nil))
	wantDeps(t, "one", deps.Merge(three()), three()...)
	wantDeps(t, "one and nothing", deps.Merge(nil, three(), list()), three()...)
	wantDeps(t, "a shard without Ids", deps.Merge(list(dep(3))), dep(3))
	wantDeps(t, "a shard without Ids twice", deps.Merge(list(dep(3)), list(dep(3))), dep(3))
	wantDeps(t, "a shard without Ids, and with some", deps.Merge(list(dep(3)), list(dep(3, at(1, 1))), list(dep(3))), dep(3, at(1, 1)))
	wantDeps(t, "two", deps.Merge(a, b), dep(0, at(1, 1), at(3, 1), at(5, 1)), dep(1, at(1, 1)), dep(2), dep(7, at(2, 2)))
	wantDeps(t, "no shard in common", deps.Merge(list(dep(5, at(1, 1))), list(dep(0, at(2, 1)))), dep(0, at(2, 1)), dep(5, at(1, 1)))
	want := list(dep(0, at(1, 1), at(3, 1), at(5, 1)), dep(1, at(1, 1)), dep(2, at(4, 4)), dep(7, at(1, 1), at(2, 2), at(2, 3)))
	for _, l := range [][][]api.Dep{{a, b, c}, {a, c, b}, {b, a, c}, {b, c, a}, {c, a, b}, {c, b, a}, {a, b, c, c, b, a, nil}} {
		wantDeps(t, "three, in any order", deps.Merge(l...), want...)
	}
	wantDeps(t, "the chapter's example", deps.Merge(list(dep(0, at(1, 1))), list(dep(0, at(2, 1)), dep(1, at(1, 1)))), dep(0, at(1, 1), at(2, 1)), dep(1, at(1, 1)))
}

// P6.3
func TestGetIsTheIdsOfAShard(t *testing.T) {
	wantIds(t, "the first shard", deps.Get(three(), 0), at(1, 1), at(2, 1), at(2, 3))
	wantIds(t, "a shard without Ids", deps.Get(three(), 4))
	wantIds(t, "the last shard", deps.Get(three(), 7), at(1, 2), at(2, 1), at(9, 1))
	for _, shard := range []int{1, 2, 3, 5, 6, -1, api.MaxShards, math.MinInt, math.MaxInt, 1 << 32} {
		wantIds(t, "a shard that is not there", deps.Get(three(), shard))
	}
	wantIds(t, "no Deps", deps.Get(nil, 0))
	wantIds(t, "no Deps", deps.Get(list(), 0))
}

// P6.3
func TestOnlyIsTheDepsOfTheseShards(t *testing.T) {
	d := three()
	wantDeps(t, "of none", deps.Only(d))
	wantDeps(t, "of none", deps.Only(d, nil...))
	wantDeps(t, "of the first", deps.Only(d, 0), d[0])
	wantDeps(t, "of one without Ids", deps.Only(d, 4), d[1])
	wantDeps(t, "of two", deps.Only(d, 0, 7), d[0], d[2])
	wantDeps(t, "in any order", deps.Only(d, 7, 0), d[0], d[2])
	wantDeps(t, "named twice", deps.Only(d, 7, 4, 7, 4, 7), d[1], d[2])
	wantDeps(t, "of all", deps.Only(d, 7, 6, 5, 4, 3, 2, 1, 0), d...)
	wantDeps(t, "some are not there", deps.Only(d, 5, 4, -1, 1, math.MaxInt, math.MinInt), d[1])
	wantDeps(t, "all are not there", deps.Only(d, 1, 2, 3, 5, 6, -1, 8, 1<<32), nil...)
	wantDeps(t, "of no Deps", deps.Only(nil, 0, 1))
}

// P6.3
func TestWithoutTakesIdsFromAllShards(t *testing.T) {
	d := three()
	wantDeps(t, "none", deps.Without(d), d...)
	wantDeps(t, "none", deps.Without(d, nil...), d...)
	wantDeps(t, "one of the first shard", deps.Without(d, at(1, 1)), dep(0, at(2, 1), at(2, 3)), d[1], d[2])
	wantDeps(t, "one of the last shard", deps.Without(d, at(9, 1)), d[0], d[1], dep(7, at(1, 2), at(2, 1)))
	wantDeps(t, "one of both", deps.Without(d, at(2, 1)), dep(0, at(1, 1), at(2, 3)), d[1], dep(7, at(1, 2), at(9, 1)))
	wantDeps(t, "one of each", deps.Without(d, at(9, 1), at(1, 1)), dep(0, at(2, 1), at(2, 3)), d[1], dep(7, at(1, 2), at(2, 1)))
	wantDeps(t, "one twice", deps.Without(d, at(2, 1), at(2, 1)), dep(0, at(1, 1), at(2, 3)), d[1], dep(7, at(1, 2), at(9, 1)))
	wantDeps(t, "such as are in none", deps.Without(d, at(2, 2), at(1, 3), api.Stamp{}, at(-1, 9)), d...)
	wantDeps(t, "all of a shard", deps.Without(d, at(2, 3), at(2, 1), at(1, 1)), dep(0), d[1], dep(7, at(1, 2), at(9, 1)))
	wantDeps(t, "all", deps.Without(d, deps.All(d)...), dep(0), dep(4), dep(7))
	wantDeps(t, "of no Deps", deps.Without(nil, at(1, 1)))
	wantDeps(t, "of a shard without Ids", deps.Without(list(dep(2)), at(1, 1)), dep(2))
}

// P6.3
func TestBelowIsAllDepsWithTheIdsThatAreLess(t *testing.T) {
	d := three()
	wantDeps(t, "below none", deps.Below(d, api.Stamp{}), dep(0), dep(4), dep(7))
	wantDeps(t, "less than all", deps.Below(d, at(-5, 9)), dep(0), dep(4), dep(7))
	wantDeps(t, "the least one", deps.Below(d, at(1, 1)), dep(0), dep(4), dep(7))
	wantDeps(t, "one of them", deps.Below(d, at(2, 1)), dep(0, at(1, 1)), dep(4), dep(7, at(1, 2)))
	wantDeps(t, "between", deps.Below(d, at(2, 2)), dep(0, at(1, 1), at(2, 1)), dep(4), dep(7, at(1, 2), at(2, 1)))
	wantDeps(t, "the greatest one", deps.Below(d, at(9, 1)), d[0], d[1], dep(7, at(1, 2), at(2, 1)))
	wantDeps(t, "one node above it", deps.Below(d, at(9, 2)), d...)
	wantDeps(t, "greater than all", deps.Below(d, at(math.MaxInt64, math.MaxInt)), d...)
	wantDeps(t, "of no Deps", deps.Below(nil, at(1, 1)))
	wantDeps(t, "of a shard without Ids", deps.Below(list(dep(2)), at(1, 1)), dep(2))
}

// P6.4
func TestAllIsTheIdsOfAllShardsEachOnce(t *testing.T) {
	wantIds(t, "no Deps", deps.All(nil))
	wantIds(t, "no Deps", deps.All(list()))
	wantIds(t, "no Ids", deps.All(full(0)))
	wantIds(t, "one shard", deps.All(list(dep(3, at(1, 1), at(2, 1)))), at(1, 1), at(2, 1))
	wantIds(t, "one Id in two shards", deps.All(three()), at(1, 1), at(1, 2), at(2, 1), at(2, 3), at(9, 1))
	wantIds(t, "the same Ids in all shards", deps.All(full(5)), run(1, 5)...)
	wantIds(t, "a later shard has the lesser Ids", deps.All(list(dep(0, at(7, 1), at(8, 1)), dep(1, at(1, 1), at(7, 2)))), at(1, 1), at(7, 1), at(7, 2), at(8, 1))
	wantIds(t, "as many as may be", deps.All(list(dep(0, run(257, 256)...), dep(1, run(1, 256)...))), slices.Concat(run(1, 256), run(257, 256))...)
}

// P6.4
func TestSameHoldsDepByDep(t *testing.T) {
	d := three()
	unlike := [][]api.Dep{
		nil,
		d[:2],
		d[1:],
		append(three(), dep(8)),
		list(dep(1, d[0].Ids...), d[1], d[2]),
		list(d[0], dep(5), d[2]),
		list(d[0], d[1], dep(6, d[2].Ids...)),
		list(d[0], d[2]),
		list(d[0], d[1], dep(5), d[2]),
		list(dep(0, d[0].Ids[:2]...), d[1], d[2]),
		list(dep(0, d[0].Ids[1:]...), d[1], d[2]),
		list(dep(0, at(1, 1), at(2, 1), at(2, 4)), d[1], d[2]),
		list(dep(0, at(1, 1), at(2, 1), at(3, 3)), d[1], d[2]),
		list(d[0], dep(4, at(1, 1)), d[2]),
		list(d[0], d[1], dep(7)),
		list(d[0], d[1], dep(7, append(slices.Clone(d[2].Ids), at(9, 2))...)),
		list(d[2], d[1], d[0]),
	}
	for i, other := range unlike {
		if deps.Same(d, other) || deps.Same(other, d) {
			t.Errorf("%d: %v is the same as %v", i, other, d)
		}
		if !deps.Same(other, slices.Clone(other)) {
			t.Errorf("%d: %v is not the same as itself", i, other)
		}
	}
	if !deps.Same(three(), three()) || !deps.Same(nil, list()) || !deps.Same(list(), nil) || !deps.Same(nil, nil) {
		t.Error("the same ones are not the same")
	}
	empty := list(api.Dep{Shard: 4, Ids: []api.Stamp{}})
	if !deps.Same(list(dep(4)), empty) || !deps.Same(empty, list(dep(4))) {
		t.Error("an empty list and nil are not the same")
	}
	if deps.Same(nil, list(dep(0))) || deps.Same(list(dep(0)), nil) {
		t.Error("a shard without Ids is the same as no shard")
	}
}
