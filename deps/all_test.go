package deps_test

import (
	"slices"
	"testing"

	"folkmoot/api"
	"folkmoot/deps"
)

// dice answers numbers from 0 on and below n, the same ones in every run.
func dice(seed uint64) func(n int) int {
	return func(n int) int {
		seed = seed*6364136223846793005 + 1442695040888963407
		return int(seed >> 33 % uint64(n))
	}
}

// table is dependencies told otherwise: of each shard that is there, which of a few stamps it has; else nil.
type table [api.MaxShards]map[api.Stamp]bool

// few is the stamps of which tables are made, rising.
func few() []api.Stamp {
	return []api.Stamp{at(1, 1), at(1, 2), at(1, 7), at(2, 1), at(2, 3), at(5, 5), at(api.MaxTime, 7)}
}

func anyTable(dice func(int) int) table {
	var x table
	for shard := range x {
		if dice(3) == 0 {
			continue
		}
		x[shard] = map[api.Stamp]bool{}
		for _, s := range few() {
			if dice(3) == 0 {
				x[shard][s] = true
			}
		}
	}
	return x
}

// told is the dependencies of a table.
func (x table) told() []api.Dep {
	var d []api.Dep
	for shard, has := range x {
		if has == nil {
			continue
		}
		next := dep(shard)
		for _, s := range few() {
			if has[s] {
				next.Ids = append(next.Ids, s)
			}
		}
		d = append(d, next)
	}
	return d
}

// and is all that is in one of the tables.
func (x table) and(others ...table) table {
	var sum table
	for _, y := range append(others, x) {
		for shard, has := range y {
			if has != nil && sum[shard] == nil {
				sum[shard] = map[api.Stamp]bool{}
			}
			for s := range has {
				sum[shard][s] = true
			}
		}
	}
	return sum
}

// less is a table, without the Ids for which out is true.
func (x table) less(out func(api.Stamp) bool) table {
	rest := x.and()
	for _, has := range rest {
		for _, s := range few() {
			if out(s) {
				delete(has, s)
			}
		}
	}
	return rest
}

// anyFew is some of the few stamps, in any order, some twice.
func anyFew(dice func(int) int) []api.Stamp {
	var l []api.Stamp
	for range dice(6) {
		l = append(l, few()[dice(len(few()))])
	}
	return l
}

// P6.1 to P6.5: any dependencies, reckoned anew from tables.
func TestAnyDependencies(t *testing.T) {
	dice := dice(11)
	for range 3000 {
		x, y := anyTable(dice), anyTable(dice)
		d, ids, s := x.told(), anyFew(dice), few()[dice(len(few()))]
		wantCheck(t, "any", d, api.OK)
		wantDeps(t, "Merge", deps.Merge(d, y.told()), x.and(y).told()...)
		wantDeps(t, "Without", deps.Without(d, ids...), x.less(func(s api.Stamp) bool { return slices.Contains(ids, s) }).told()...)
		wantDeps(t, "Below", deps.Below(d, s), x.less(func(x api.Stamp) bool { return slices.Index(few(), x) >= slices.Index(few(), s) }).told()...)
		wantParse(t, "any", deps.Put(d), d, api.OK)
		if deps.Same(d, y.told()) != same(d, y.told()) {
			t.Errorf("Same(%v, %v)", d, y.told())
		}
		wantShards(t, x, dice)
	}
}

// wantShards asks Get, Only and All of a table's dependencies.
func wantShards(t *testing.T, x table, dice func(int) int) {
	t.Helper()
	d := x.told()
	var only table
	var shards []int
	for shard, has := range x {
		var one table
		one[shard] = has
		wantDeps(t, "Only one", deps.Only(d, shard), one.told()...)
		var ids []api.Stamp
		for _, s := range few() {
			if has[s] {
				ids = append(ids, s)
			}
		}
		wantIds(t, "Get", deps.Get(d, shard), ids...)
		if dice(2) == 0 {
			only[shard], shards = has, append(shards, shard)
		}
	}
	slices.Reverse(shards)
	wantDeps(t, "Only", deps.Only(d, shards...), only.told()...)
	var all []api.Stamp
	for _, s := range few() {
		if slices.ContainsFunc(x[:], func(has map[api.Stamp]bool) bool { return has[s] }) {
			all = append(all, s)
		}
	}
	wantIds(t, "All", deps.All(d), all...)
}

// P6.2: Make of any ids, in any order.
func TestMakeOfAnyIds(t *testing.T) {
	dice := dice(13)
	for range 1000 {
		ids, shard := anyFew(dice), dice(api.MaxShards)
		want := dep(shard)
		for _, s := range few() {
			if slices.Contains(ids, s) {
				want.Ids = append(want.Ids, s)
			}
		}
		wantDeps(t, "any ids", deps.Make(shard, ids...), want)
	}
}

// P6.6: the same, whatever the order, and however it is parted.
func TestMergeHangsNotOnTheOrderNorOnTheParts(t *testing.T) {
	dice := dice(17)
	for range 2000 {
		var l [][]api.Dep
		for range dice(6) {
			l = append(l, anyTable(dice).told())
		}
		want := deps.Merge(l...)
		mixed := slices.Clone(l)
		for i := range mixed {
			j := dice(i + 1)
			mixed[i], mixed[j] = mixed[j], mixed[i]
		}
		wantDeps(t, "another order", deps.Merge(mixed...), want...)
		i := dice(len(mixed) + 1)
		wantDeps(t, "two parts", deps.Merge(deps.Merge(mixed[:i]...), deps.Merge(mixed[i:]...)), want...)
		var step []api.Dep
		for _, d := range mixed {
			step = deps.Merge(step, d)
		}
		wantDeps(t, "one behind the other", step, want...)
		wantDeps(t, "twice", deps.Merge(append(mixed, l...)...), want...)
	}
}

// P6.6: merged with a part of themselves they are the same.
func TestMergeWithAPartOfItself(t *testing.T) {
	dice := dice(19)
	for range 2000 {
		x := anyTable(dice)
		d := x.told()
		part := x.less(func(api.Stamp) bool { return dice(2) == 0 })
		for shard := range part {
			if dice(3) == 0 {
				part[shard] = nil
			}
		}
		parts := [][]api.Dep{
			part.told(), deps.Only(d, dice(8), dice(8), dice(8)), deps.Without(d, anyFew(dice)...), deps.Below(d, few()[dice(len(few()))]), d, nil,
		}
		for _, p := range parts {
			wantDeps(t, "with a part", deps.Merge(d, p), d...)
			wantDeps(t, "a part with it", deps.Merge(p, d), d...)
		}
		wantDeps(t, "with all parts", deps.Merge(append(parts, parts...)...), d...)
	}
}
