package cmd

import (
	"folkmoot/api"
	"folkmoot/fit"
	"folkmoot/txn"
)

// Check tells whether all that is known may be so.
func Check(c api.Cmd) api.Errno {
	right := fit.Stamp(c.Id) && seenMayBe(c) && promisesMayBe(c) && valueMayBe(c) && phaseMayBe(c) && listsMayBe(c)
	if !right {
		return api.ErrCmd
	}
	return api.OK
}

// seenMayBe holds the ops, and what was seen with them.
func seenMayBe(c api.Cmd) bool {
	if !hasOps(c) {
		return isZero(c.Vote) && !c.Fast && len(c.Seen) == 0
	}
	return txn.Check(c.Ops) == api.OK && (isZero(c.Vote) || fit.Time(c.Vote, c.Id)) && fit.Deps(c.Seen)
}

// promisesMayBe holds what was promised, and bound; a bound is such as a ballot is.
func promisesMayBe(c api.Cmd) bool { return fit.Ballot(c.Promise) && fit.Ballot(c.Bound) }

// valueMayBe holds the value, and by which ballot it was accepted.
func valueMayBe(c api.Cmd) bool {
	if !c.Has {
		return isZero(c.Ballot) && fit.NoValue(c.Value)
	}
	return fit.Ballot(c.Ballot) && fit.Value(c.Value)
}

// phaseMayBe holds the phase against what is to be known in it.
func phaseMayBe(c api.Cmd) bool {
	switch c.Phase {
	case api.PhaseNone:
		return !hasOps(c) && !c.Ready
	case api.PhaseSeen:
		return hasOps(c) && !c.Ready
	case api.PhaseDecided:
		return c.Has && (c.Value.Gone && !c.Ready || !c.Value.Gone && hasOps(c))
	case api.PhaseApplied:
		return c.Has && c.Ready && !c.Value.Gone && hasOps(c)
	}
	return false
}

// listsMayBe holds what it writes, and what it has read.
func listsMayBe(c api.Cmd) bool {
	if len(c.Writes) > 0 && !c.Ready || len(c.Pairs) > 0 && c.Phase != api.PhaseApplied {
		return false
	}
	return fit.Writes(c.Writes) && fit.Data(c.Pairs)
}

func isZero(s api.Stamp) bool { return s == api.Stamp{} }
