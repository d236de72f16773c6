package cmd_test

import (
	"slices"
	"testing"

	"folkmoot/api"
	"folkmoot/cmd"
	"folkmoot/deps"
	"folkmoot/num"
	"folkmoot/stamp"
	"folkmoot/txn"
)

// dice answers numbers from 0 on and below n, the same ones in every run.
func dice(seed uint64) func(n int) int {
	return func(n int) int {
		seed = seed*6364136223846793005 + 1442695040888963407
		return int(seed >> 33 % uint64(n))
	}
}

// one is one of these.
func one[T any](dice func(int) int, l ...T) T { return l[dice(len(l))] }

func anyBallot(dice func(int) int) api.Stamp {
	return one(dice, none(), at(3, 1), at(5, 2), at(5, 3), at(6, 1), at(7, 7), at(9, 1))
}

func anyTime(dice func(int) int) api.Stamp {
	return one(dice, id(), at(5, 3), at(6, 1), at(6, 7), at(8, 2), at(api.MaxTime, api.MaxNode))
}

func anyOps(dice func(int) int) []api.Op { return one(dice, two(), other(), []api.Op{get("k")}) }

func anyDeps(dice func(int) int) []api.Dep {
	return one(dice, nil, []api.Dep{}, hang(), later(), []api.Dep{dep(0), dep(1)})
}

func anyValue(dice func(int) int) api.Value {
	if dice(3) == 0 {
		return gone()
	}
	return value(one(dice, anyTime(dice), at(1, 1)), anyDeps(dice)...)
}

func anyWrites(dice func(int) int) []api.Write {
	return one(dice, nil, writes(set("a", 1)), writes(drop("a"), set("b", num.Of(5)), drop("c")), writes(drop("z")))
}

func anyPairs(dice func(int) int) []api.Pair {
	return one(dice, nil, pairs(), pairs(pair("a", 1)), pairs(pair("a", 0), pair("b", num.Of(-5))))
}

// step is a call, and what is handed in.
type step struct {
	kind   string
	ballot api.Stamp
	at     api.Stamp
	fast   bool
	ops    []api.Op
	deps   []api.Dep
	value  api.Value
	writes []api.Write
	pairs  []api.Pair
}

func anyStep(dice func(int) int) step {
	s := step{
		kind:   one(dice, "witness", "promise", "promise", "bind", "bind", "accept", "accept", "accept", "decide", "load", "load", "done"),
		ballot: anyBallot(dice), at: anyTime(dice), fast: dice(2) == 0, ops: anyOps(dice), deps: anyDeps(dice), value: anyValue(dice),
		writes: anyWrites(dice), pairs: anyPairs(dice),
	}
	if s.kind == "witness" && dice(4) == 0 {
		s.at = none()
	}
	if s.kind == "bind" && dice(4) == 0 {
		s.at = one(dice, none(), at(2, 2))
	}
	return s
}

// do does a step, and tells whether it was promised.
func (s step) do(c api.Cmd) (api.Cmd, bool) {
	switch s.kind {
	case "witness":
		return cmd.Witness(c, s.ops, s.at, s.fast, s.deps), false
	case "promise":
		return cmd.Promise(c, s.ballot)
	case "bind":
		return cmd.Bind(c, s.ballot, s.at)
	case "accept":
		return cmd.Accept(c, s.ballot, s.value)
	case "decide":
		return cmd.Decide(c, s.ops, s.value), false
	case "load":
		return cmd.Load(c, s.writes), false
	}
	return cmd.Done(c, s.pairs), false
}

// told is what steps make of a new command, reckoned from all of them at once.
func told(l []step) api.Cmd {
	c := api.Cmd{Id: id()}
	end := slices.IndexFunc(l, func(s step) bool { return s.kind == "decide" })
	ahead := l
	if end >= 0 {
		ahead = l[:end]
	}
	if saw := slices.IndexFunc(ahead, func(s step) bool { return s.kind == "witness" }); saw >= 0 {
		s := ahead[saw]
		c.Phase, c.Ops, c.Vote, c.Fast, c.Seen = api.PhaseSeen, s.ops, s.at, s.fast, s.deps
	}
	heard := heardOf(ahead)
	var ballots, bounds []api.Stamp
	for _, s := range heard {
		ballots = append(ballots, s.ballot)
		if s.kind == "bind" {
			bounds = append(bounds, s.at)
		}
		if s.kind == "accept" {
			bounds = append(bounds, s.value.At)
			c.Has, c.Ballot, c.Value = true, s.ballot, s.value
		}
	}
	c.Promise, c.Bound = stamp.Max(ballots...), stamp.Max(bounds...)
	if end >= 0 {
		c = ended(c, l[end], l[end+1:])
	}
	return c
}

// heardOf is the steps that were promised: those by no lesser ballot than all ahead of them.
func heardOf(l []step) []step {
	var heard []step
	last := none()
	for _, s := range l {
		if (s.kind == "promise" || s.kind == "bind" || s.kind == "accept") && stamp.Compare(s.ballot, last) >= 0 {
			heard = append(heard, s)
			last = s.ballot
		}
	}
	return heard
}

// ended is a command that was decided by a step, and what those behind it make of it.
func ended(c api.Cmd, by step, behind []step) api.Cmd {
	c.Phase, c.Has, c.Value = api.PhaseDecided, true, by.value
	if by.value.Gone {
		return c
	}
	if c.Ops == nil {
		c.Ops = by.ops
	}
	load := slices.IndexFunc(behind, func(s step) bool { return s.kind == "load" })
	if load < 0 {
		return c
	}
	c.Ready, c.Writes = true, behind[load].writes
	behind = behind[load+1:]
	if done := slices.IndexFunc(behind, func(s step) bool { return s.kind == "done" }); done >= 0 {
		c.Phase, c.Pairs = api.PhaseApplied, behind[done].pairs
	}
	return c
}

// P9.3 to P9.5, P9.7, P9.8: any steps, one behind the other, from a new command on.
func TestAnySteps(t *testing.T) {
	dice := dice(21)
	for range 8000 {
		c := cmd.New(id())
		var l []step
		for range 1 + dice(14) {
			s := anyStep(dice)
			heard := len(heardOf(l))
			next, ok := s.do(c)
			l = append(l, s)
			decided := c.Phase == api.PhaseDecided || c.Phase == api.PhaseApplied
			if want := !decided && len(heardOf(l)) > heard; ok != want {
				t.Fatalf("%#v of %#v: %v, want %v", s, c, ok, want)
			}
			if want := told(l); !same(next, want) {
				t.Fatalf("%#v of %#v:\n got %#v,\nwant %#v", s, c, next, want)
			}
			wantGrown(t, s, c, next)
			wantCheck(t, "behind what may be", next, api.OK)
			c = next
		}
		wantParse(t, "any", cmd.Put(c), c)
	}
}

// wantGrown asks whether nothing is known less than it was.
func wantGrown(t *testing.T, s step, old, c api.Cmd) {
	t.Helper()
	less := func(a, b api.Stamp) bool { return stamp.Compare(a, b) < 0 }
	another := old.Has != c.Has || old.Value.Gone != c.Value.Gone || old.Value.At != c.Value.At || !deps.Same(old.Value.Deps, c.Value.Deps)
	wasDecided := old.Phase == api.PhaseDecided || old.Phase == api.PhaseApplied
	switch {
	case c.Id != old.Id:
		t.Fatalf("%#v: another Id: %#v, was %#v", s, c, old)
	case c.Phase < old.Phase || less(c.Promise, old.Promise) || less(c.Bound, old.Bound):
		t.Fatalf("%#v: less than it was: %#v, was %#v", s, c, old)
	case less(cmd.Top(c), cmd.Top(old)) && !another:
		t.Fatalf("%#v: a lesser Top of the same Value: %#v, was %#v", s, c, old)
	case wasDecided && (another || c.Promise != old.Promise || c.Ballot != old.Ballot || !slices.Equal(c.Ops, old.Ops)):
		t.Fatalf("%#v: what was decided is another thing: %#v, was %#v", s, c, old)
	case len(old.Ops) > 0 && (c.Vote != old.Vote || c.Fast != old.Fast || !deps.Same(c.Seen, old.Seen) || !slices.Equal(c.Ops, old.Ops)):
		t.Fatalf("%#v: another vote: %#v, was %#v", s, c, old)
	case cmd.Final(old) && !cmd.Final(c):
		t.Fatalf("%#v: it was final: %#v, was %#v", s, c, old)
	case old.Ready && (!c.Ready || !slices.Equal(c.Writes, old.Writes)):
		t.Fatalf("%#v: other writes: %#v, were %#v", s, c, old)
	}
}

// anyCmd is a command of any parts, of which several may not be, or not with one another.
func anyCmd(dice func(int) int) api.Cmd {
	c := api.Cmd{Id: id(), Phase: dice(4), Promise: anyBallot(dice), Bound: one(dice, none(), anyTime(dice), at(1, 1))}
	if dice(4) > 0 {
		c.Ops = anyOps(dice)
		c.Vote, c.Fast, c.Seen = one(dice, none(), anyTime(dice)), dice(2) == 0, anyDeps(dice)
	}
	if dice(4) > 0 {
		c.Has, c.Ballot, c.Value = true, anyBallot(dice), anyValue(dice)
	}
	if c.Phase == api.PhaseApplied || dice(3) == 0 {
		c.Ready, c.Writes = true, anyWrites(dice)
	}
	if c.Phase == api.PhaseApplied && dice(2) == 0 {
		c.Pairs = anyPairs(dice)
	}
	for dice(3) == 0 {
		c = spoilt(dice, c)
	}
	return c
}

// spoilt is a command of which one part is another one, which may be wrong.
func spoilt(dice func(int) int, c api.Cmd) api.Cmd {
	_, wrongValues := values()
	stamps := append(wrongStamps(), none(), at(1, 1), at(4, 7), id(), at(5, 3))
	switch dice(14) {
	case 0:
		c.Id = one(dice, stamps...)
	case 1:
		c.Ops = one(dice, append(wrongOps(), nil, nil, nil, two())...)
	case 2:
		c.Phase = one(dice, 0, 1, 2, 3, -1, 4)
	case 3:
		c.Promise = one(dice, stamps...)
	case 4:
		c.Vote = one(dice, stamps...)
	case 5:
		c.Fast = !c.Fast
	case 6:
		c.Seen = one(dice, append(wrongDeps(), nil, hang(), nil)...)
	case 7:
		c.Bound = one(dice, stamps...)
	case 8:
		c.Has = !c.Has
	case 9:
		c.Ballot = one(dice, stamps...)
	case 10:
		c.Value = one(dice, append(wrongValues, anyValue(dice))...)
	case 11:
		c.Ready = !c.Ready
	case 12:
		c.Writes = one(dice, anyWrites(dice), writes(drop("b"), drop("a")), writes(drop("")), writes(api.Write{Key: "a", Num: 1, Gone: true}))
	case 13:
		c.Pairs = one(dice, anyPairs(dice), pairs(pair("b", 1), pair("a", 1)), pairs(pair("", 1)))
	}
	return c
}

// mayBe is P9.1, sentence by sentence.
func mayBe(c api.Cmd) bool {
	ops, known := len(c.Ops) > 0, !c.Value.Gone && c.Value.At == none() && len(c.Value.Deps) == 0
	isStamp := func(s api.Stamp) bool { return stamp.Check(s) == api.OK }
	isBallot := func(s api.Stamp) bool { return s == none() || isStamp(s) }
	isValue := c.Value.Gone && c.Value.At == none() && len(c.Value.Deps) == 0
	isValue = isValue || !c.Value.Gone && isStamp(c.Value.At) && deps.Check(c.Value.Deps) == api.OK
	var phase bool
	switch c.Phase {
	case api.PhaseNone:
		phase = !ops && !c.Ready
	case api.PhaseSeen:
		phase = ops && !c.Ready
	case api.PhaseDecided, api.PhaseApplied:
		phase = c.Has && (ops || c.Value.Gone) && (c.Ready || c.Phase == api.PhaseDecided) && !(c.Ready && c.Value.Gone)
	}
	var written []api.Pair
	for _, w := range c.Writes {
		if w.Gone && w.Num != 0 {
			return false
		}
		written = append(written, pair(w.Key, w.Num))
	}
	for _, fault := range []bool{
		!isStamp(c.Id), ops && txn.Check(c.Ops) != api.OK, !ops && (c.Vote != none() || c.Fast || len(c.Seen) > 0),
		ops && c.Vote != none() && (!isStamp(c.Vote) || stamp.Compare(c.Vote, c.Id) < 0), ops && deps.Check(c.Seen) != api.OK,
		!isBallot(c.Promise), !isBallot(c.Ballot), !isBallot(c.Bound), !c.Has && (c.Ballot != none() || !known), c.Has && !isValue,
		!phase, !isData(written), len(written) > 0 && !c.Ready, !isData(c.Pairs), len(c.Pairs) > 0 && c.Phase != api.PhaseApplied,
	} {
		if fault {
			return false
		}
	}
	return true
}

// isData asks txn.Apply, which has data by rising keys, and puts on keys alone.
func isData(l []api.Pair) bool {
	var puts []api.Op
	var w []api.Write
	for _, p := range l {
		puts, w = append(puts, api.Op{Kind: api.OpPut, Key: p.Key, Num: p.Num}), append(w, set(p.Key, p.Num))
	}
	return slices.Equal(txn.Apply(nil, w...), l) && (len(l) == 0 || txn.Check(puts) == api.OK)
}

// P9.1, P9.8: any commands; what may be is followed by what may be, and is there and back.
func TestAnyCommands(t *testing.T) {
	dice := dice(22)
	right := 0
	for range 60000 {
		c := anyCmd(dice)
		if !mayBe(c) {
			wantCheck(t, "any", c, api.ErrCmd)
			wantNoCmd(t, "any", cmd.Put(c))
			continue
		}
		right++
		wantCheck(t, "any", c, api.OK)
		wantParse(t, "any", cmd.Put(c), c)
		for range 4 {
			s := anyStep(dice)
			// What is handed in may be: a vote is not ahead of the Id.
			if s.kind == "witness" && stamp.Compare(s.at, c.Id) < 0 {
				s.at = none()
			}
			next, _ := s.do(c)
			wantCheck(t, "behind what may be", next, api.OK)
			wantGrown(t, s, c, next)
			c = next
		}
	}
	if right < 10000 || right > 50000 {
		t.Errorf("%d of 60000 may be", right)
	}
}
