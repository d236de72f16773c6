package choose_test

import (
	"slices"
	"testing"

	"folkmoot/api"
	"folkmoot/choose"
)

func accept(v api.Value) api.Plan { return api.Plan{Kind: api.PlanAccept, Value: v} }

func bind(at api.Stamp) api.Plan { return api.Plan{Kind: api.PlanBind, At: at} }

func learn(l ...api.Op) api.Plan { return api.Plan{Kind: api.PlanLearn, Ops: l} }

func samePlan(a, b api.Plan) bool {
	return a.Kind == b.Kind && sameValue(a.Value, b.Value) && a.At == b.At && slices.Equal(a.Ops, b.Ops)
}

// wantPlan asks in several orders of what is told.
func wantPlan(t *testing.T, what string, o []api.Op, l []api.Told, want api.Plan) {
	t.Helper()
	for _, l := range turned(l) {
		if got := choose.Recover(four(), id(), o, l); !samePlan(got, want) {
			t.Errorf("%s: Recover of %v and %v: %v, want %v", what, o, l, got, want)
		}
	}
}

// blind is told by a node that has never seen the transaction.
func blind(node int) api.Told { return api.Told{Node: node} }

// holds is the same, by a node that has accepted a value.
func holds(x api.Told, ballot api.Stamp, v api.Value) api.Told {
	x.Has, x.Ballot, x.Value = true, ballot, v
	return x
}

// P12.4
func TestRecoverLearnsTheOps(t *testing.T) {
	a, b, c := ops(put("a")), ops(get("b"), put("c")), ops(put("x"))
	knows := func(node int, o []api.Op) api.Told { return api.Told{Node: node, Ops: o} }
	for _, nothing := range [][]api.Op{nil, {}} {
		wantPlan(t, "one", nothing, told(knows(2, a)), learn(a...))
		wantPlan(t, "one of three", nothing, told(blind(1), knows(2, b), blind(3)), learn(b...))
		wantPlan(t, "all the same", nothing, told(knows(3, b), knows(1, b), knows(2, b)), learn(b...))
		wantPlan(t, "several: the least node that does", nothing, told(knows(3, a), knows(2, b), knows(4, c), knows(1, nil), knows(0, []api.Op{})), learn(b...))
		wantPlan(t, "of none of the shards", nothing, told(knows(7, c), knows(9, a)), learn(c...))
		wantPlan(t, "of a node below 0", nothing, told(knows(1, c), knows(-1, a)), learn(a...))
		wantPlan(t, "ahead of a value", nothing, told(holds(blind(1), at(9, 1), value(at(7, 1))), knows(2, a)), learn(a...))
		wantPlan(t, "ahead of what is gone", nothing, told(holds(blind(1), at(9, 1), gone()), knows(2, a), holds(knows(3, b), at(2, 1), value(at(8, 1)))), learn(a...))
		wantPlan(t, "ahead of all that is told for the first time", nothing, told(first(1), first(2), first(3)), learn(put("a")))
		wantPlan(t, "ahead of a later vote", nothing, told(late(1, false, at(9, 1))), learn(put("a")))
	}
	// Who knows the ops has none to learn.
	wantPlan(t, "others are told", ops(put("g")), told(knows(4, a), knows(5, b)), bind(none()))
	wantPlan(t, "others are told, for the first time", ops(put("g")), told(first(4, dep(0, at(1, 1)), dep(1, at(2, 1)))), accept(value(id(), dep(1, at(2, 1)))))
	wantPlan(t, "the same ones are told", a, told(knows(1, a), knows(2, a)), bind(none()))
}

// P12.4
func TestRecoverTakesTheValueOfTheGreatestBallot(t *testing.T) {
	v, w, x := value(at(7, 1), dep(0, at(1, 1))), value(at(6, 1)), value(at(8, 3), dep(0, at(2, 1)), dep(3))
	cases := []struct {
		what string
		l    []api.Told
		want api.Value
	}{
		{"one", told(holds(blind(2), at(3, 1), v)), v},
		{"one of three", told(blind(1), holds(blind(2), at(3, 1), v), blind(3)), v},
		{"by the zero ballot", told(holds(blind(2), none(), v)), v},
		{"by the zero ballot, and nobody else has one", told(blind(1), holds(blind(2), none(), v), api.Told{Node: 3, Vote: at(9, 1)}), v},
		{"one that is gone", told(blind(1), holds(blind(2), at(3, 1), gone())), gone()},
		{"one that is gone, by the zero ballot", told(blind(1), holds(blind(2), none(), gone())), gone()},
		{"unlike ballots, by the time", told(holds(blind(1), at(3, 1), v), holds(blind(2), at(4, 1), w), holds(blind(3), at(2, 1), x)), w},
		{"unlike ballots, by the node", told(holds(blind(1), at(3, 1), v), holds(blind(2), at(3, 4), w), holds(blind(3), at(3, 2), x)), w},
		{"unlike ballots, the time comes ahead", told(holds(blind(1), at(3, 7), v), holds(blind(2), at(4, 1), w)), w},
		{"the zero ballot is the least one", told(holds(blind(1), none(), v), holds(blind(2), at(1, 1), w), holds(blind(3), none(), x)), w},
		{"the greatest ballot is of what is gone", told(holds(blind(1), at(3, 1), v), holds(blind(2), at(4, 1), gone())), gone()},
		{"a lesser ballot is of what is gone", told(holds(blind(1), at(3, 1), gone()), holds(blind(2), at(4, 1), v)), v},
		{"the same ballot: the least node", told(holds(blind(3), at(3, 1), v), holds(blind(2), at(3, 1), w), holds(blind(4), at(3, 1), x)), w},
		{"the same ballot, gone or not", told(holds(blind(3), at(3, 1), v), holds(blind(2), at(3, 1), gone())), gone()},
		{"the zero ballot, all of them", told(holds(blind(3), none(), v), holds(blind(2), none(), w), holds(blind(5), none(), x)), w},
		{"of the greatest ballot the least node", told(holds(blind(1), at(3, 1), v), holds(blind(4), at(5, 1), w), holds(blind(3), at(5, 1), x), holds(blind(2), at(4, 7), gone())), x},
		{"the greatest value is of no account", told(holds(blind(2), at(3, 1), w), holds(blind(3), at(3, 1), x)), w},
		{"of none of the shards", told(holds(blind(7), at(3, 1), x), holds(blind(1), at(2, 1), v)), x},
	}
	for _, c := range cases {
		wantPlan(t, c.what+", ops known", ops(put("a")), c.l, accept(c.want))
		wantPlan(t, c.what+", ops unknown", nil, c.l, accept(c.want))
	}
}

// P12.4: a value comes ahead of all that is told besides.
func TestRecoverTakesAValueAheadOfTheRest(t *testing.T) {
	v, a := value(at(7, 1), dep(0, at(1, 1))), ops(put("a"))
	wantPlan(t, "all tell for the first time", a, told(first(1), holds(first(2), none(), v), first(3)), accept(v))
	wantPlan(t, "all tell for the first time, one of them that it is gone", a, told(first(1), holds(first(2), at(3, 1), gone()), first(3)), accept(gone()))
	wantPlan(t, "votes are later", a, told(holds(late(1, false, at(9, 9)), at(3, 1), v), late(2, true, at(8, 8))), accept(v))
	// What stands where a value would, without Has, is none.
	x := first(1)
	x.Ballot, x.Value = at(9, 1), v
	wantPlan(t, "nobody has one", a, told(x, first(2)), accept(value(id(), dep(0))))
	wantPlan(t, "another one has one", a, told(x, holds(first(2), none(), gone())), accept(gone()))
}

// P12.4
func TestRecoverGivesUpWhatNobodyKnows(t *testing.T) {
	for _, nothing := range [][]api.Op{nil, {}} {
		wantPlan(t, "nobody tells", nothing, nil, accept(gone()))
		wantPlan(t, "an empty list", nothing, []api.Told{}, accept(gone()))
		wantPlan(t, "nobody has seen it", nothing, told(blind(1), blind(2), blind(3)), accept(gone()))
		x := api.Told{Node: 1, Vote: at(9, 1), Deps: on(dep(0, at(1, 1)))}
		wantPlan(t, "somebody has a vote", nothing, told(x, blind(2)), accept(gone()))
		x.Vote, x.Fast = id(), true
		wantPlan(t, "somebody tells for the first time", nothing, told(x), accept(gone()))
		x.Ops = []api.Op{}
		wantPlan(t, "an empty list of ops", nothing, told(x, blind(2)), accept(gone()))
	}
	wantPlan(t, "its ops are known here", ops(put("a")), told(blind(1), blind(2)), bind(none()))
}

// P12.4
func TestRecoverFindsTheFastPath(t *testing.T) {
	a, b := dep(0, at(1, 1)), dep(1, at(2, 1), at(3, 2))
	wantPlan(t, "a quorum", ops(put("a")), told(first(1, a), first(2, a)), accept(value(id(), a)))
	wantPlan(t, "all, upon nothing", ops(get("a")), told(first(1), first(2), first(3)), accept(value(id(), dep(0))))
	wantPlan(t, "two shards", ops(put("k"), get("a")), told(first(3, a, b), first(1, a), first(4, b)), accept(value(id(), a, b)))
	wantPlan(t, "of a scan", ops(api.Op{Kind: api.OpScan, Key: "h", To: "o"}), told(first(4, b), first(5, b)), accept(value(id(), b, dep(2))))
	wantPlan(t, "of both keys of a move", ops(api.Op{Kind: api.OpMove, Key: "z", To: "a"}), told(first(1, a), first(2, a), first(6)), accept(value(id(), a, dep(3))))
	wantPlan(t, "what differs is no shard of the ops", ops(put("k")), told(first(3, a, b), first(4, b), late(1, false, at(9, 1)), first(2)), accept(value(id(), b)))
	wantPlan(t, "who has none of the shards tells late", ops(put("a")), told(first(1, a), late(4, false, at(9, 1), a)), accept(value(id(), a)))
}

// P12.4
func TestRecoverBindsElse(t *testing.T) {
	a, b := dep(0, at(1, 1)), dep(1, at(2, 1))
	wantPlan(t, "nobody tells", ops(put("a")), nil, bind(none()))
	wantPlan(t, "a later vote", ops(put("a")), told(first(1, a), late(2, true, at(9, 2), a)), bind(at(9, 2)))
	wantPlan(t, "the same vote, but not the first one", ops(put("a")), told(first(1, a), late(2, false, id(), a)), bind(id()))
	wantPlan(t, "other Ids", ops(put("a")), told(first(1, a), first(2)), bind(id()))
	wantPlan(t, "one has not seen it", ops(put("a")), told(first(1, a), blind(2)), bind(id()))
	wantPlan(t, "a shard of which nobody tells", ops(put("a"), put("z")), told(first(1, a), first(2, a)), bind(id()))
	wantPlan(t, "the second shard differs", ops(put("a"), get("k")), told(first(1, a), first(3, a, b), first(4)), bind(id()))
	wantPlan(t, "the greatest vote of all, also of who has none of the shards", ops(put("a")), told(first(1, a), late(2, false, at(7, 3), a), late(4, true, at(8, 1))), bind(at(8, 1)))
	// The chapter's example.
	wantPlan(t, "two of three, upon nothing", ops(put("a")), told(first(1), first(2)), accept(value(id(), dep(0))))
	wantPlan(t, "one of them later", ops(put("a")), told(first(1), late(2, true, at(6, 2))), bind(at(6, 2)))
}
