package choose_test

import (
	"cmp"
	"slices"
	"testing"

	"folkmoot/api"
	"folkmoot/choose"
	"folkmoot/deps"
	"folkmoot/topo"
	"folkmoot/txn"
)

// dice answers numbers from 0 on and below n, the same ones in every run.
func dice(seed uint64) func(n int) int {
	return func(n int) int {
		seed = seed*6364136223846793005 + 1442695040888963407
		return int(seed >> 33 % uint64(n))
	}
}

// mix brings a list into any order.
func mix[T any](dice func(int) int, l []T) {
	for i := range l {
		j := dice(i + 1)
		l[i], l[j] = l[j], l[i]
	}
}

// some is any of these, in any order.
func some[T any](dice func(int) int, l ...T) []T {
	picked := slices.DeleteFunc(slices.Clone(l), func(T) bool { return dice(2) == 0 })
	mix(dice, picked)
	return picked
}

func keys() []string { return []string{"a", "f", "g", "k", "n", "s", "t"} }

// anyRow is a topology that may be.
func anyRow(dice func(int) int) []api.Shard {
	from := ""
	var l []api.Shard
	for _, to := range append(keys()[1:], "") {
		if to != "" && dice(3) > 0 {
			continue
		}
		nodes := some(dice, 1, 2, 3, 4, 5)
		if len(nodes) == 0 {
			nodes = []int{1 + dice(5)}
		}
		slices.Sort(nodes)
		l, from = append(l, shard(from, to, nodes...)), to
	}
	return l
}

func anyOps(dice func(int) int) []api.Op {
	var l []api.Op
	for _, key := range some(dice, keys()...) {
		l = append(l, []api.Op{get(key), put(key), {Kind: api.OpScan, Key: key}, {Kind: api.OpAdd, Key: key}}[dice(4)])
	}
	return l
}

// anyDeps is dependencies in each shard that may be, of so few stamps that they are often the same.
func anyDeps(dice func(int) int) []api.Dep {
	var d []api.Dep
	for place := range api.MaxShards {
		ids := some(dice, at(1, 1), at(4, 3))
		slices.SortFunc(ids, compare)
		d = append(d, dep(place, ids...))
	}
	return d
}

// otherDeps is the same ones, but for a shard that is not there, or has any Ids.
func otherDeps(dice func(int) int, d []api.Dep) []api.Dep {
	place := dice(len(d))
	var other []api.Dep
	if dice(2) == 0 {
		other = anyDeps(dice)[place : place+1]
	}
	return slices.Concat(d[:place], other, d[place+1:])
}

func anyStamp(dice func(int) int) api.Stamp { return at(4+int64(dice(3)), 1+dice(3)) }

// anyTold is what some nodes tell, in any order; most of them are of one mind.
func anyTold(dice func(int) int) []api.Told {
	common, rare := anyDeps(dice), 4+dice(20)
	var l []api.Told
	for _, node := range some(dice, 1, 2, 3, 4, 5, 6, 7) {
		x := api.Told{Node: node, Vote: id(), Fast: true, Deps: common}
		if dice(rare) == 0 {
			x.Deps = otherDeps(dice, common)
		}
		if dice(rare) == 0 {
			x.Vote, x.Fast = anyStamp(dice), dice(2) == 0
		}
		if dice(rare) == 0 {
			x = blind(node)
		}
		if dice(3) == 0 {
			x.Ops = anyOps(dice)
		}
		if dice(rare) == 0 {
			ballot, v := anyStamp(dice), value(anyStamp(dice), anyDeps(dice)...)
			if dice(3) == 0 {
				ballot = none()
			}
			if dice(3) == 0 {
				v = gone()
			}
			x = holds(x, ballot, v)
		}
		l = append(l, x)
	}
	return l
}

func compare(a, b api.Stamp) int {
	return cmp.Or(cmp.Compare(a.Time, b.Time), cmp.Compare(a.Node, b.Node))
}

// fastest is P12.2 told otherwise: node by node of each shard.
func fastest(row []api.Shard, shards []int, l []api.Told) (api.Value, bool) {
	v := value(id())
	for place, s := range row {
		if !slices.Contains(shards, place) {
			continue
		}
		var told [][]api.Stamp
		for _, node := range s.Nodes {
			for _, x := range l {
				if x.Node != node {
					continue
				}
				if !x.Fast || x.Vote.Time != id().Time || x.Vote.Node != id().Node {
					return api.Value{}, false
				}
				told = append(told, deps.Get(x.Deps, place))
			}
		}
		if len(told) == 0 {
			return api.Value{}, false
		}
		for _, ids := range told {
			if !slices.Equal(ids, told[0]) {
				return api.Value{}, false
			}
		}
		v.Deps = append(v.Deps, dep(place, told[0]...))
	}
	return v, true
}

// planned is P12.4 told otherwise: by rising nodes, word by word.
func planned(row []api.Shard, o []api.Op, l []api.Told) api.Plan {
	l = slices.Clone(l)
	slices.SortFunc(l, func(a, b api.Told) int { return a.Node - b.Node })
	var votes api.Stamp
	held := -1
	for i, x := range l {
		if len(o) == 0 && len(x.Ops) > 0 {
			return learn(x.Ops...)
		}
		if x.Has && (held < 0 || compare(x.Ballot, l[held].Ballot) > 0) {
			held = i
		}
		if compare(x.Vote, votes) > 0 {
			votes = x.Vote
		}
	}
	if held >= 0 {
		return accept(l[held].Value)
	}
	if len(o) == 0 {
		return accept(gone())
	}
	if v, ok := fastest(row, topo.Touch(row, txn.All(o)), l); ok {
		return accept(v)
	}
	return bind(votes)
}

// P12.1, P12.2: of anything that may be told.
func TestFastOfAnythingThatIsTold(t *testing.T) {
	dice := dice(3)
	yes := 0
	for range 20000 {
		row, l := anyRow(dice), anyTold(dice)
		shards := append(some(dice, -1, 0, 1, 2, 3, 4, 5, 6, 7, 8), some(dice, 0, 2, 4)...)
		got, ok := choose.Fast(row, id(), shards, l)
		want, wantOk := fastest(row, shards, l)
		if ok != wantOk || !sameValue(got, want) {
			t.Fatalf("Fast of %v, %v and %v: %v, %v, want %v, %v", row, shards, l, got, ok, want, wantOk)
		}
		if ok && len(got.Deps) > 0 {
			yes++
		}
	}
	if yes < 2000 || yes > 18000 {
		t.Errorf("%d of them agreed", yes)
	}
}

// P12.3: of anything that may be told.
func TestAtAndUnionOfAnythingThatIsTold(t *testing.T) {
	dice := dice(5)
	for range 5000 {
		l := anyTold(dice)
		var votes api.Stamp
		var union []api.Dep
		for place := range api.MaxShards {
			var ids []api.Stamp
			there := false
			for _, x := range l {
				there = there || slices.ContainsFunc(x.Deps, func(d api.Dep) bool { return d.Shard == place })
				ids = append(ids, deps.Get(x.Deps, place)...)
			}
			slices.SortFunc(ids, compare)
			if there {
				union = append(union, dep(place, slices.Compact(ids)...))
			}
		}
		for _, x := range l {
			if compare(x.Vote, votes) > 0 {
				votes = x.Vote
			}
		}
		if got := choose.At(l); got != votes {
			t.Fatalf("At(%v): %v, want %v", l, got, votes)
		}
		if got := choose.Union(l); !deps.Same(got, union) {
			t.Fatalf("Union(%v): %v, want %v", l, got, union)
		}
	}
}

// P12.4: of anything that may be told.
func TestRecoverOfAnythingThatIsTold(t *testing.T) {
	dice := dice(7)
	kinds := map[int]int{}
	for range 20000 {
		row, l, o := anyRow(dice), anyTold(dice), anyOps(dice)
		if dice(3) == 0 {
			o = nil
		}
		got, want := choose.Recover(row, id(), o, l), planned(row, o, l)
		if !samePlan(got, want) {
			t.Fatalf("Recover of %v, %v and %v: %v, want %v", row, o, l, got, want)
		}
		kinds[got.Kind]++
	}
	for _, kind := range []int{api.PlanAccept, api.PlanBind, api.PlanLearn} {
		if kinds[kind] < 2000 {
			t.Errorf("plan %d comes %d times", kind, kinds[kind])
		}
	}
}

// quorums is all sets of the nodes of some shards that have a quorum of each.
func quorums(row []api.Shard, shards []int) [][]int {
	var sets [][]int
	for bits := range 1 << (api.MaxNode + 1) {
		var set []int
		for _, node := range topo.Nodes(row, shards...) {
			if bits&(1<<node) != 0 {
				set = append(set, node)
			}
		}
		few := func(place int) bool {
			there := 0
			for _, node := range row[place].Nodes {
				if slices.Contains(set, node) {
					there++
				}
			}
			return there*2 <= len(row[place].Nodes)
		}
		if !slices.ContainsFunc(shards, few) {
			sets = append(sets, set)
		}
	}
	return sets
}

// P12.5: if all tell the same for the first time, everybody who asks a quorum finds that value.
func TestWhoeverAsksAQuorumFindsTheFastValue(t *testing.T) {
	dice := dice(11)
	for range 200 {
		row, o, common := anyRow(dice), append(anyOps(dice), put("k")), anyDeps(dice)
		shards := topo.Touch(row, txn.All(o))
		want := accept(value(id(), deps.Only(common, shards...)...))
		for _, set := range quorums(row, shards) {
			var l []api.Told
			for _, node := range set {
				// Of what a node does not keep it may tell anything.
				others := slices.DeleteFunc(anyDeps(dice), func(d api.Dep) bool { return topo.Keeps(row, node, d.Shard) })
				tells := deps.Merge(deps.Only(common, topo.Of(row, node)...), others)
				l = append(l, api.Told{Node: node, Ops: o, Vote: id(), Fast: true, Deps: tells})
			}
			mix(dice, l)
			if got := choose.Recover(row, id(), o, l); !samePlan(got, want) {
				t.Fatalf("Recover of %v, %v and %v: %v, want %v", row, o, l, got, want)
			}
			// Who does not know the ops learns them, and finds it then.
			first := choose.Recover(row, id(), nil, l)
			if got := choose.Recover(row, id(), first.Ops, l); first.Kind != api.PlanLearn || !samePlan(got, want) {
				t.Fatalf("Recover of %v and %v without ops: %v, then %v, want %v", row, l, first, got, want)
			}
		}
	}
}

// P12.5: what was accepted by the greatest ballot is chosen again, whatever else is told.
func TestWhatWasAcceptedIsChosenAgain(t *testing.T) {
	dice := dice(13)
	for range 5000 {
		row, l, o := anyRow(dice), anyTold(dice), append(anyOps(dice), put("k"))
		if len(l) == 0 {
			continue
		}
		v := []api.Value{value(at(9, 1), anyDeps(dice)...), gone()}[dice(2)]
		for range 1 + dice(len(l)) {
			i := dice(len(l))
			l[i] = holds(l[i], at(8, 2), v)
		}
		want := accept(v)
		if got := choose.Recover(row, id(), o, l); !samePlan(got, want) {
			t.Fatalf("Recover of %v, %v and %v: %v, want %v", row, o, l, got, want)
		}
		if got := choose.Recover(row, id(), nil, l); got.Kind != api.PlanLearn && !samePlan(got, want) {
			t.Fatalf("Recover of %v and %v without ops: %v, want %v", row, l, got, want)
		}
	}
}
