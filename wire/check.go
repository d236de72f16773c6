package wire

import (
	"folkmoot/api"
	"folkmoot/fit"
	"folkmoot/txn"
)

// row is the fields that have a part in a kind, each by a letter that says such as what it is to be.
type row struct{ letters string }

// The letters.
const (
	aTime        = 'a' // At: a time
	timeOrNone   = 'A' // At: a time, or zero
	aBallot      = 'b' // Ballot: a ballot
	anotherOne   = 'B' // Ballot: a stamp, as nobody takes over by the first one
	dependencies = 'd' // Deps
	fast         = 'f' // Fast
	accepted     = 'h' // Has, and with it Acc: a ballot, and Value: a value
	ops          = 'o' // Ops: a transaction
	opsOrGone    = 'g' // Ops: a transaction, or, if Value is Gone, none
	opsOrNone    = 'O' // Ops: a transaction, or none
	pairs        = 'p' // Pairs: data
	aValue       = 'v' // Value: a value
	living       = 'V' // Value: a value that is not Gone
	writes       = 'w' // Writes: writes
)

// rows is the rows of all kinds.
func rows() map[int]row {
	return map[int]row{
		api.MsgPre:      {"o"},
		api.MsgVote:     {"afd"},
		api.MsgBind:     {"bao"},
		api.MsgBound:    {"bd"},
		api.MsgAccept:   {"bvg"},
		api.MsgAccepted: {"b"},
		api.MsgNack:     {"b"},
		api.MsgDecide:   {"vg"},
		api.MsgKnown:    {"vg"},
		api.MsgRecover:  {"BO"},
		api.MsgTold:     {"BOAfdh"},
		api.MsgRead:     {"Vo"},
		api.MsgPairs:    {"p"},
		api.MsgApply:    {"Vow"},
		api.MsgApplied:  {""},
		api.MsgOver:     {""},
		api.MsgForget:   {""},
	}
}

// Check tells whether a message may be.
func Check(m api.Msg) api.Errno {
	r, ok := rows()[m.Kind]
	if !ok || !fit.Node(m.From) || !fit.Node(m.To) || !fit.Stamp(m.Id) {
		return api.ErrWire
	}
	rest := m
	for _, letter := range r.letters {
		if !fits(m, letter) {
			return api.ErrWire
		}
		rest = without(rest, letter)
	}
	if !isBare(rest) {
		return api.ErrWire
	}
	return api.OK
}

// fits tells whether a letter's field is such as it is to be.
func fits(m api.Msg, letter rune) bool {
	switch letter {
	case aTime:
		return fit.Time(m.At, m.Id)
	case timeOrNone:
		return m.At == api.Stamp{} || fit.Time(m.At, m.Id)
	case aBallot:
		return fit.Ballot(m.Ballot)
	case anotherOne:
		return fit.Stamp(m.Ballot)
	case dependencies:
		return fit.Deps(m.Deps)
	case accepted:
		return isAccepted(m)
	case ops:
		return isTransaction(m.Ops)
	case opsOrGone:
		return isTransaction(m.Ops) || m.Value.Gone && len(m.Ops) == 0
	case opsOrNone:
		return isTransaction(m.Ops) || len(m.Ops) == 0
	case pairs:
		return fit.Data(m.Pairs)
	case aValue:
		return fit.Value(m.Value)
	case living:
		return fit.Value(m.Value) && !m.Value.Gone
	case writes:
		return fit.Writes(m.Writes)
	}
	// Fast may be either.
	return letter == fast
}

// without is the message without a letter's field.
func without(m api.Msg, letter rune) api.Msg {
	switch letter {
	case aTime, timeOrNone:
		m.At = api.Stamp{}
	case aBallot, anotherOne:
		m.Ballot = api.Stamp{}
	case dependencies:
		m.Deps = nil
	case fast:
		m.Fast = false
	case accepted:
		m.Has, m.Acc, m.Value = false, api.Stamp{}, api.Value{}
	case ops, opsOrGone, opsOrNone:
		m.Ops = nil
	case pairs:
		m.Pairs = nil
	case aValue, living:
		m.Value = api.Value{}
	case writes:
		m.Writes = nil
	}
	return m
}

// isBare tells whether all fields are zero, but those that each message has.
func isBare(m api.Msg) bool {
	none := api.Stamp{}
	lists := len(m.Ops) + len(m.Deps) + len(m.Writes) + len(m.Pairs)
	return m.Ballot == none && m.At == none && m.Acc == none && !m.Fast && !m.Has && fit.NoValue(m.Value) && lists == 0
}

// isAccepted tells whether a value may have been accepted, by that ballot; or there is none.
func isAccepted(m api.Msg) bool {
	if !m.Has {
		return m.Acc == api.Stamp{} && fit.NoValue(m.Value)
	}
	return fit.Ballot(m.Acc) && fit.Value(m.Value)
}

func isTransaction(l []api.Op) bool { return txn.Check(l) == api.OK }
