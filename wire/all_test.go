package wire_test

import (
	"reflect"
	"testing"

	"folkmoot/api"
	"folkmoot/deps"
	"folkmoot/num"
	"folkmoot/stamp"
	"folkmoot/txn"
	"folkmoot/wire"
)

// dice answers numbers from 0 on and below n, the same ones in every run.
func dice(seed uint64) func(n int) int {
	return func(n int) int {
		seed = seed*6364136223846793005 + 1442695040888963407
		return int(seed >> 33 % uint64(n))
	}
}

// one is one of these.
func one[T any](dice func(int) int, l ...T) T { return l[dice(len(l))] }

// anyMsg is a message of some kind, with what may be in its fields, but that one or another is spoilt.
func anyMsg(dice func(int) int) api.Msg {
	kind := one(dice, kinds()...)
	m := bare(kind)
	right, _ := values()
	for _, name := range own(kind) {
		from := everything(kind)
		from.Ballot, from.At, from.Acc = one(dice, id(), at(7, 3), at(1, 1)), one(dice, id(), at(5, 3), at(9, 1)), one(dice, none(), at(7, 3))
		from.Ops, from.Deps, from.Value = one(dice, two(), eight(), []api.Op{get("q")}), one(dice, nil, hang(), full()), one(dice, right...)
		from.Fast = dice(2) == 0
		m = take(m, from, name)
	}
	m.From, m.To = 1+dice(7), 1+dice(7)
	for dice(3) == 0 {
		m = spoilt(dice, m)
	}
	return m
}

// spoilt is a message of which one field is another one, which may be wrong.
func spoilt(dice func(int) int, m api.Msg) api.Msg {
	right, wrong := values()
	stamps := append(wrongStamps(), none(), none(), none(), at(1, 1), at(5, 1), id(), at(5, 3))
	switch dice(14) {
	case 0:
		m.Kind = one(dice, append(kinds(), 0, 18, -1)...)
	case 1:
		m.From = one(dice, 0, 1, 7, 8)
	case 2:
		m.To = one(dice, 0, 1, 7, 8)
	case 3:
		m.Id = one(dice, stamps...)
	case 4:
		m.Ballot = one(dice, stamps...)
	case 5:
		m.At = one(dice, stamps...)
	case 6:
		m.Ops = one(dice, append(wrongOps(), nil, nil, nil, two())...)
	case 7:
		m.Fast = !m.Fast
	case 8:
		m.Deps = one(dice, append(wrongDeps(), nil, hang(), nil)...)
	case 9:
		m.Has = !m.Has
	case 10:
		m.Acc = one(dice, stamps...)
	case 11:
		m.Value = one(dice, append(append(wrong, right...), gone(), api.Value{}, gone(), gone())...)
	case 12:
		m.Writes = one(dice, append(wrongWrites(), nil, nil, written())...)
	case 13:
		m.Pairs = one(dice, append(wrongPairs(), nil, nil, read())...)
	}
	return m
}

func isStamp(s api.Stamp) bool { return stamp.Check(s) == api.OK }

func isBallot(s api.Stamp) bool { return s == none() || isStamp(s) }

func isTime(s, id api.Stamp) bool { return isStamp(s) && stamp.Compare(id, s) <= 0 }

func isTransaction(l []api.Op) bool { return txn.Check(l) == api.OK }

func areDeps(d []api.Dep) bool { return deps.Check(d) == api.OK }

func isValue(v api.Value) bool {
	if v.Gone {
		return same(api.Msg{Value: v}, api.Msg{Value: gone()})
	}
	return isStamp(v.At) && areDeps(v.Deps)
}

func isKept(key string, n api.Num) bool { return key != "" && len(key) <= 16 && num.Check(n) == api.OK }

func areWrites(l []api.Write) bool {
	ahead := ""
	for _, w := range l {
		if !isKept(w.Key, w.Num) || ahead >= w.Key || w.Gone && w.Num != 0 {
			return false
		}
		ahead = w.Key
	}
	return true
}

func areData(l []api.Pair) bool {
	ahead := ""
	for _, p := range l {
		if !isKept(p.Key, p.Num) || ahead >= p.Key {
			return false
		}
		ahead = p.Key
	}
	return true
}

// mayBe is P13.1, line by line: the fields of a kind are such, and a message of these alone is the message.
func mayBe(m api.Msg) bool {
	x := api.Msg{Kind: m.Kind, From: m.From, To: m.To, Id: m.Id}
	ops, noOps := isTransaction(m.Ops), len(m.Ops) == 0
	var right bool
	switch m.Kind {
	case api.MsgPre:
		x.Ops = m.Ops
		right = ops
	case api.MsgVote:
		x.At, x.Fast, x.Deps = m.At, m.Fast, m.Deps
		right = isTime(m.At, m.Id) && areDeps(m.Deps)
	case api.MsgBind:
		x.Ballot, x.At, x.Ops = m.Ballot, m.At, m.Ops
		right = isBallot(m.Ballot) && isTime(m.At, m.Id) && ops
	case api.MsgBound:
		x.Ballot, x.Deps = m.Ballot, m.Deps
		right = isBallot(m.Ballot) && areDeps(m.Deps)
	case api.MsgAccept:
		x.Ballot, x.Value, x.Ops = m.Ballot, m.Value, m.Ops
		right = isBallot(m.Ballot) && isValue(m.Value) && (ops || noOps && m.Value.Gone)
	case api.MsgAccepted, api.MsgNack:
		x.Ballot = m.Ballot
		right = isBallot(m.Ballot)
	case api.MsgDecide, api.MsgKnown:
		x.Value, x.Ops = m.Value, m.Ops
		right = isValue(m.Value) && (ops || noOps && m.Value.Gone)
	case api.MsgRecover:
		x.Ballot, x.Ops = m.Ballot, m.Ops
		right = isStamp(m.Ballot) && (ops || noOps)
	case api.MsgTold:
		x = m
		x.Writes, x.Pairs = nil, nil
		right = isStamp(m.Ballot) && (ops || noOps) && (m.At == none() || isTime(m.At, m.Id)) && areDeps(m.Deps)
		if m.Has {
			right = right && isBallot(m.Acc) && isValue(m.Value)
		} else {
			x.Acc, x.Value = none(), api.Value{}
		}
	case api.MsgRead:
		x.Value, x.Ops = m.Value, m.Ops
		right = isValue(m.Value) && !m.Value.Gone && ops
	case api.MsgPairs:
		x.Pairs = m.Pairs
		right = areData(m.Pairs)
	case api.MsgApply:
		x.Value, x.Ops, x.Writes = m.Value, m.Ops, m.Writes
		right = isValue(m.Value) && !m.Value.Gone && ops && areWrites(m.Writes)
	case api.MsgApplied, api.MsgOver, api.MsgForget:
		right = true
	}
	return right && isStamp(m.Id) && 1 <= min(m.From, m.To) && max(m.From, m.To) <= 7 && same(m, x)
}

// P13.1 to P13.3: any messages.
func TestAnyMessages(t *testing.T) {
	dice := dice(31)
	right := 0
	for range 20000 {
		m := anyMsg(dice)
		if !mayBe(m) {
			wantCheck(t, "any", m, api.ErrWire)
			if b, err := wire.Put(m); len(b) > 0 || err != api.ErrWire {
				t.Fatalf("Put(%#v): %x, %d", m, b, err)
			}
			continue
		}
		right++
		wantCheck(t, "any", m, api.OK)
		b := bytesOf(t, m)
		wantParse(t, "any", b, m)
		b[dice(len(b))] ^= byte(1 + dice(255))
		wantNoMsg(t, "any, of which a byte is another one", b)
	}
	if right < 7000 || right > 17000 {
		t.Errorf("%d of 20000 may be", right)
	}
}

// P13.2: bytes with a right sum, of which several are other ones: none, or a message that may be, and whose bytes they are.
func TestAnyBytes(t *testing.T) {
	dice := dice(32)
	all := messages()
	right := 0
	for range 60000 {
		b := bytesOf(t, one(dice, all...))
		body := b[:len(b)-8]
		for range 1 + dice(3) {
			body[dice(len(body))] ^= byte(1 << dice(8))
		}
		b = summed(body)
		m, err := wire.Parse(b)
		if err == api.OK {
			right++
			if again, err := wire.Put(m); err != api.OK || !reflect.DeepEqual(again, b) {
				t.Fatalf("Put(Parse(%x)): %x, %d", b, again, err)
			}
		} else if err != api.ErrWire || !reflect.DeepEqual(m, api.Msg{}) {
			t.Fatalf("Parse(%x): %#v, %d", b, m, err)
		}
	}
	if right < 1000 || right > 50000 {
		t.Errorf("%d of 60000 are messages", right)
	}
}
