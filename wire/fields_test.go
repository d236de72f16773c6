package wire_test

import (
	"testing"

	"folkmoot/api"
)

// P13.1: a time is a stamp that is not less than Id; the zero one is none, but for MsgTold.
func TestCheckOfTimes(t *testing.T) {
	for _, kind := range []int{api.MsgVote, api.MsgBind, api.MsgTold} {
		m := good(kind)
		wantEach(t, m, "At", api.OK, id(), at(5, 3), at(6, 1), at(api.MaxTime, api.MaxNode))
		wantEach(t, m, "At", api.ErrWire, at(5, 1), at(4, 7), at(4, 2), at(1, 1))
		wantEach(t, m, "At", api.ErrWire, wrongStamps()...)
	}
	wantEach(t, good(api.MsgVote), "At", api.ErrWire, none())
	wantEach(t, good(api.MsgBind), "At", api.ErrWire, none())
	wantEach(t, good(api.MsgTold), "At", api.OK, none())
}

// P13.1: the zero Stamp is a ballot, but no stamp.
func TestCheckOfBallots(t *testing.T) {
	ballots := []int{api.MsgBind, api.MsgBound, api.MsgAccept, api.MsgAccepted, api.MsgNack}
	stamps := []int{api.MsgRecover, api.MsgTold}
	for _, kind := range append(ballots, stamps...) {
		wantEach(t, good(kind), "Ballot", api.OK, at(1, 1), id(), at(api.MaxTime, api.MaxNode))
		wantEach(t, good(kind), "Ballot", api.ErrWire, wrongStamps()...)
	}
	for _, kind := range ballots {
		wantEach(t, good(kind), "Ballot", api.OK, none())
	}
	for _, kind := range stamps {
		wantEach(t, good(kind), "Ballot", api.ErrWire, none())
	}
}

// P13.1: Ops that are a transaction, or, of some kinds, none.
func TestCheckOfOps(t *testing.T) {
	want := map[int]api.Errno{
		api.MsgPre: api.ErrWire, api.MsgBind: api.ErrWire, api.MsgAccept: api.ErrWire, api.MsgDecide: api.ErrWire, api.MsgKnown: api.ErrWire,
		api.MsgRecover: api.OK, api.MsgTold: api.OK, api.MsgRead: api.ErrWire, api.MsgApply: api.ErrWire,
	}
	for kind, err := range want {
		wantEach(t, good(kind), "Ops", err, nil, []api.Op{})
		wantEach(t, good(kind), "Ops", api.OK, two(), eight(), []api.Op{get("z")})
		wantEach(t, good(kind), "Ops", api.ErrWire, wrongOps()...)
	}
}

// P13.1: what is gone has ops, or none; what is not has some.
func TestCheckOfOpsOfWhatIsGone(t *testing.T) {
	for _, kind := range []int{api.MsgAccept, api.MsgDecide, api.MsgKnown} {
		dead := with(good(kind), set("Value", gone()))
		wantEach(t, dead, "Ops", api.OK, nil, []api.Op{}, two(), eight())
		wantEach(t, dead, "Ops", api.ErrWire, wrongOps()...)
		living := with(good(kind), set("Value", value(at(6, 1))))
		wantEach(t, living, "Ops", api.OK, two(), eight())
		wantEach(t, living, "Ops", api.ErrWire, nil, []api.Op{})
	}
	for _, kind := range []int{api.MsgRead, api.MsgApply} {
		dead := with(good(kind), set("Value", gone()))
		wantEach(t, dead, "Ops", api.ErrWire, nil, []api.Op{}, two())
	}
}

// P13.1: values; of what is read, or applied, none that is gone.
func TestCheckOfValues(t *testing.T) {
	right, wrong := values()
	for _, kind := range []int{api.MsgAccept, api.MsgDecide, api.MsgKnown, api.MsgTold} {
		wantEach(t, good(kind), "Value", api.OK, right...)
		wantEach(t, good(kind), "Value", api.ErrWire, append(wrong, api.Value{})...)
	}
	for _, kind := range []int{api.MsgRead, api.MsgApply} {
		for _, v := range right {
			err := api.OK
			if v.Gone {
				err = api.ErrWire
			}
			wantEach(t, good(kind), "Value", err, v)
		}
		wantEach(t, good(kind), "Value", api.ErrWire, append(wrong, api.Value{})...)
	}
}

// P13.1: At of a Value is a stamp, which may be less than Id (a value is as in chapter 9).
func TestCheckOfValuesAheadOfTheId(t *testing.T) {
	for _, kind := range []int{api.MsgAccept, api.MsgDecide, api.MsgKnown, api.MsgTold, api.MsgRead, api.MsgApply} {
		wantEach(t, good(kind), "Value", api.OK, value(at(1, 1)), value(at(5, 1)))
	}
}

// P13.1: what a MsgTold Has, and has not.
func TestCheckOfWhatWasAccepted(t *testing.T) {
	m := good(api.MsgTold)
	wantEach(t, m, "Acc", api.OK, none(), at(1, 1), at(9, 7))
	wantEach(t, m, "Acc", api.ErrWire, wrongStamps()...)
	wantCheck(t, "all of it without Has", with(m, set("Has", false)), api.ErrWire)
	hasNot := with(m, set("Has", false), set("Acc", none()), set("Value", api.Value{}))
	wantCheck(t, "has not", hasNot, api.OK)
	wantCheck(t, "Has, but no value", with(hasNot, set("Has", true)), api.ErrWire)
	wantCheck(t, "Has, and what is gone", with(hasNot, set("Has", true), set("Value", gone())), api.OK)
	wantCheck(t, "empty Deps of none", with(hasNot, set("Value", value(none(), []api.Dep{}...))), api.OK)
	wantEach(t, hasNot, "Acc", api.ErrWire, at(1, 1), at(9, 7), at(0, 1))
	wantEach(t, hasNot, "Acc", api.ErrWire, wrongStamps()...)
	right, wrong := values()
	wantEach(t, hasNot, "Value", api.ErrWire, right...)
	wantEach(t, hasNot, "Value", api.ErrWire, wrong...)
}

// P13.1: nobody but who tells has accepted a value.
func TestCheckOfWhatWasAcceptedInOtherKinds(t *testing.T) {
	for _, kind := range kinds() {
		if kind == api.MsgTold {
			continue
		}
		for _, v := range []api.Value{gone(), value(at(6, 1), hang()...)} {
			wantCheck(t, "a whole one", with(good(kind), set("Has", true), set("Acc", at(4, 3)), set("Value", v)), api.ErrWire)
			wantCheck(t, "by the first ballot", with(good(kind), set("Has", true), set("Value", v)), api.ErrWire)
		}
	}
}

// P13.1: dependencies.
func TestCheckOfDeps(t *testing.T) {
	for _, kind := range []int{api.MsgVote, api.MsgBound, api.MsgTold} {
		wantEach(t, good(kind), "Deps", api.OK, nil, []api.Dep{}, hang(), full(), []api.Dep{dep(7)}, []api.Dep{dep(0, id(), at(99, 1))})
		wantEach(t, good(kind), "Deps", api.ErrWire, wrongDeps()...)
	}
}

// P13.1: Fast may be either.
func TestCheckOfFast(t *testing.T) {
	for _, kind := range []int{api.MsgVote, api.MsgTold} {
		wantEach(t, good(kind), "Fast", api.OK, true, false)
	}
	for _, kind := range []int{api.MsgPre, api.MsgBound, api.MsgApplied, api.MsgRecover} {
		wantEach(t, good(kind), "Fast", api.ErrWire, true)
		wantEach(t, good(kind), "Fast", api.OK, false)
	}
}

// P13.1: of a MsgTold nothing but a ballot need be told.
func TestCheckOfATellingOfNothing(t *testing.T) {
	m := with(bare(api.MsgTold), set("Ballot", at(1, 1)))
	wantCheck(t, "nothing", m, api.OK)
	wantEach(t, m, "At", api.OK, id())
	wantEach(t, m, "Fast", api.OK, true)
	wantEach(t, m, "Deps", api.OK, hang())
	wantEach(t, m, "Ops", api.OK, two())
}

// many is as many writes as may be said to be many, and as many pairs.
func many(n int) ([]api.Write, []api.Pair) {
	var w []api.Write
	var p []api.Pair
	for i := range n {
		key := string([]byte{byte(i >> 8), byte(i)})
		w, p = append(w, api.Write{Key: key, Num: 1}), append(p, api.Pair{Key: key, Num: 1})
	}
	return w, p
}

// P13.1: writes, and data.
func TestCheckOfWritesAndPairs(t *testing.T) {
	w, p := many(1 << 16)
	apply, pairs := good(api.MsgApply), good(api.MsgPairs)
	wantEach(t, apply, "Writes", api.OK, nil, []api.Write{}, written(), []api.Write{{Key: "z", Gone: true}}, w[:2*api.MaxOps], w[:1+2*api.MaxOps], w)
	wantEach(t, apply, "Writes", api.ErrWire, wrongWrites()...)
	wantEach(t, pairs, "Pairs", api.OK, nil, []api.Pair{}, read(), []api.Pair{{Key: "0123456789abcdef"}}, p)
	wantEach(t, pairs, "Pairs", api.ErrWire, wrongPairs()...)
	// Whether they are what the ops write is not asked.
	wantEach(t, apply, "Ops", api.OK, []api.Op{get("q")})
}

// P13.1: the examples of the chapter.
func TestExamples(t *testing.T) {
	wantCheck(t, "a MsgPre without Ops", bare(api.MsgPre), api.ErrWire)
	wantCheck(t, "a MsgApplied with a Ballot", with(bare(api.MsgApplied), set("Ballot", at(1, 1))), api.ErrWire)
}
