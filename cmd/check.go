package cmd

import (
	"folkmoot/api"
	"folkmoot/deps"
	"folkmoot/num"
	"folkmoot/span"
	"folkmoot/stamp"
	"folkmoot/txn"
)

// Check tells whether all that is known may be so.
func Check(c api.Cmd) api.Errno {
	right := stamp.Check(c.Id) == api.OK && seenMayBe(c) && promisesMayBe(c) && valueMayBe(c) && phaseMayBe(c) && listsMayBe(c)
	if !right {
		return api.ErrCmd
	}
	return api.OK
}

// seenMayBe holds the ops, and what was seen with them.
func seenMayBe(c api.Cmd) bool {
	if !hasOps(c) {
		return isZero(c.Vote) && !c.Fast && len(c.Seen) == 0
	}
	return txn.Check(c.Ops) == api.OK && isVote(c.Vote, c.Id) && deps.Check(c.Seen) == api.OK
}

func promisesMayBe(c api.Cmd) bool { return isStampOrZero(c.Promise) && isStampOrZero(c.Bound) }

// valueMayBe holds the value, and by which ballot it was accepted.
func valueMayBe(c api.Cmd) bool {
	if !c.Has {
		return isZero(c.Ballot) && isZeroValue(c.Value)
	}
	return isStampOrZero(c.Ballot) && isValue(c.Value)
}

// phaseMayBe holds the phase against what is to be known in it.
func phaseMayBe(c api.Cmd) bool {
	switch c.Phase {
	case api.PhaseNone:
		return !hasOps(c) && !c.Ready
	case api.PhaseSeen:
		return hasOps(c) && !c.Ready
	case api.PhaseDecided:
		return c.Has && (c.Value.Gone && !c.Ready || !c.Value.Gone && hasOps(c))
	case api.PhaseApplied:
		return c.Has && c.Ready && !c.Value.Gone && hasOps(c)
	}
	return false
}

// listsMayBe holds what it writes, and what it has read.
func listsMayBe(c api.Cmd) bool {
	if len(c.Writes) > 0 && !c.Ready || len(c.Pairs) > 0 && c.Phase != api.PhaseApplied {
		return false
	}
	return areWrites(c.Writes) && areData(c.Pairs)
}

// isVote tells whether it is none, or a time at which that transaction may be executed.
func isVote(vote, id api.Stamp) bool {
	return isZero(vote) || stamp.Check(vote) == api.OK && stamp.Compare(vote, id) >= 0
}

func isValue(v api.Value) bool {
	if v.Gone {
		return isZero(v.At) && len(v.Deps) == 0
	}
	return stamp.Check(v.At) == api.OK && deps.Check(v.Deps) == api.OK
}

func isZeroValue(v api.Value) bool { return !v.Gone && isZero(v.At) && len(v.Deps) == 0 }

// isStampOrZero tells whether it may be a ballot, or a bound.
func isStampOrZero(s api.Stamp) bool { return isZero(s) || stamp.Check(s) == api.OK }

func isZero(s api.Stamp) bool { return s == api.Stamp{} }

func areWrites(l []api.Write) bool {
	for i, w := range l {
		if !isPair(w.Key, w.Num) || w.Gone && w.Num != 0 || i > 0 && w.Key <= l[i-1].Key {
			return false
		}
	}
	return true
}

func areData(l []api.Pair) bool {
	for i, p := range l {
		if !isPair(p.Key, p.Num) || i > 0 && p.Key <= l[i-1].Key {
			return false
		}
	}
	return true
}

func isPair(key string, n api.Num) bool { return span.Key(key) == api.OK && num.Check(n) == api.OK }
