package txn_test

import (
	"math"
	"slices"
	"strings"
	"testing"

	"folkmoot/api"
	"folkmoot/num"
	"folkmoot/txn"
)

// Nums that have names, by their bits.
const (
	minusZero = api.Num(0x8000000000000000)
	least     = api.Num(1) // the least number above 0
	greatest  = api.Num(0x7fefffffffffffff)
	inf       = api.Num(0x7ff0000000000000)
	minusInf  = api.Num(0xfff0000000000000)
	nan       = api.Num(0x7ff8000000000001)
)

func get(key string) api.Op            { return api.Op{Kind: api.OpGet, Key: key} }
func scan(key, to string) api.Op       { return api.Op{Kind: api.OpScan, Key: key, To: to} }
func put(key string, n api.Num) api.Op { return api.Op{Kind: api.OpPut, Key: key, Num: n} }
func add(key string, n api.Num) api.Op { return api.Op{Kind: api.OpAdd, Key: key, Num: n} }
func drop(key string) api.Op           { return api.Op{Kind: api.OpDrop, Key: key} }
func move(key, to string, n api.Num) api.Op {
	return api.Op{Kind: api.OpMove, Key: key, To: to, Num: n}
}

func kind(kind int, key, to string) api.Op { return api.Op{Kind: kind, Key: key, To: to} }

func with(op api.Op, n api.Num) api.Op {
	op.Num = n
	return op
}

func ops(l ...api.Op) []api.Op { return l }

func long(n int) string { return strings.Repeat("k", n) }

func wantCheck(t *testing.T, what string, l []api.Op, want api.Errno) {
	t.Helper()
	if got := txn.Check(l); got != want {
		t.Errorf("%s: Check(%#v): %d, want %d", what, l, got, want)
	}
}

// wantOp asks Check of an op alone, and ahead of, behind and between others.
func wantOp(t *testing.T, what string, op api.Op, want api.Errno) {
	t.Helper()
	wantCheck(t, what, ops(op), want)
	wantCheck(t, what+", as the first one", ops(op, get("a")), want)
	wantCheck(t, what+", as the last one", ops(put("b", 3), op), want)
	wantCheck(t, what+", in the middle", ops(drop("c"), scan("a", ""), op, move("a", "b", 1)), want)
	full := append(slices.Repeat(ops(add("a", 1)), api.MaxOps-1), op)
	wantCheck(t, what+", as the last one that may be", full, want)
}

// six is an op of each Kind.
func six() []api.Op {
	return ops(get("a"), scan("a", "c"), put("a", num.Of(5)), add("a", num.Of(5)), drop("a"), move("a", "b", num.Of(5)))
}

// P8.1
func TestCheckCountsOps(t *testing.T) {
	wantCheck(t, "nil", nil, api.ErrTxn)
	wantCheck(t, "no op", ops(), api.ErrTxn)
	wantCheck(t, "room for ops, but no op", make([]api.Op, 0, 5), api.ErrTxn)
	for _, op := range six() {
		for n := 1; n <= api.MaxOps; n++ {
			wantCheck(t, "ops that are alike", slices.Repeat(ops(op), n), api.OK)
		}
		wantCheck(t, "one more", slices.Repeat(ops(op), api.MaxOps+1), api.ErrMany)
		wantCheck(t, "many", slices.Repeat(ops(op), 1000), api.ErrMany)
	}
	wantCheck(t, "one of each", six(), api.OK)
}

// P8.1: too many is told first, whatever else is wrong.
func TestCheckNamesTheFirstError(t *testing.T) {
	wantCheck(t, "zeros", make([]api.Op, api.MaxOps), api.ErrTxn)
	wantCheck(t, "too many zeros", make([]api.Op, api.MaxOps+1), api.ErrMany)
	for _, wrong := range ops(api.Op{}, get(""), kind(7, "a", ""), put("a", nan+1), with(get("a"), 1)) {
		l := slices.Repeat(ops(get("a")), api.MaxOps+1)
		for i := range l {
			spoilt := slices.Clone(l)
			spoilt[i] = wrong
			wantCheck(t, "too many, of which one is wrong", spoilt, api.ErrMany)
			wantCheck(t, "one of them is wrong", slices.Delete(spoilt, (i+1)%len(l), (i+1)%len(l)+1), api.ErrTxn)
		}
	}
}

// P8.1
func TestCheckOfKinds(t *testing.T) {
	for _, op := range six() {
		wantOp(t, "a Kind", op, api.OK)
	}
	for _, k := range []int{0, 7, 8, -1, -2, -6, 256, 257, 1 << 32, 1<<32 + 1, math.MaxInt, math.MinInt, math.MinInt + 1} {
		for _, op := range append(six(), get("a"), put("a", 0), kind(k, "a", "b"), kind(k, "b", "a")) {
			op.Kind = k
			wantOp(t, "no Kind", op, api.ErrTxn)
		}
	}
}

// withKey is an op of each Kind, with that Key.
func withKey(key string) []api.Op {
	return ops(get(key), scan(key, ""), put(key, 7), add(key, 7), drop(key), move(key, "to", 7))
}

// P8.1
func TestCheckOfKeys(t *testing.T) {
	for _, key := range []string{"a", "\x00", "\xff", " ", "ab", "ö", long(api.MaxKey), strings.Repeat("\xff", api.MaxKey)} {
		for _, op := range withKey(key) {
			wantOp(t, "a key", op, api.OK)
		}
		wantOp(t, "the other key of a move", move("from", key, 7), api.OK)
	}
	for _, key := range []string{"", long(api.MaxKey + 1), long(1000), strings.Repeat("ö", api.MaxKey/2+1), "a" + long(api.MaxKey)} {
		for _, op := range withKey(key) {
			wantOp(t, "no key", op, api.ErrTxn)
		}
		wantOp(t, "the other one of a move is no key", move("from", key, 7), api.ErrTxn)
		wantOp(t, "neither is a key", move(key, key, 7), api.ErrTxn)
	}
	wantOp(t, "a scan up to what is no key", scan("a", long(api.MaxKey+1)), api.ErrTxn)
	wantOp(t, "a scan up to the longest key", scan("a", long(api.MaxKey)), api.OK)
	wantOp(t, "a scan past the longest key alone", scan(long(api.MaxKey), long(api.MaxKey)+"\x00"), api.ErrTxn)
}

// P8.1: To that is none, Key itself, below Key, above it, no key, for each Kind.
func TestCheckOfTo(t *testing.T) {
	type want struct{ none, same, below, above, longer api.Errno }
	fails := want{api.OK, api.ErrTxn, api.ErrTxn, api.ErrTxn, api.ErrTxn}
	for k, w := range map[int]want{
		api.OpGet:  fails,
		api.OpScan: {api.OK, api.ErrTxn, api.ErrTxn, api.OK, api.ErrTxn},
		api.OpPut:  fails,
		api.OpAdd:  fails,
		api.OpDrop: fails,
		api.OpMove: {api.ErrTxn, api.ErrTxn, api.OK, api.OK, api.ErrTxn},
	} {
		wantOp(t, "no To", kind(k, "m", ""), w.none)
		wantOp(t, "To is Key", kind(k, "m", "m"), w.same)
		for _, to := range []string{"a", "\x00", "l\xff\xff", "lz"} {
			wantOp(t, "To is below Key", kind(k, "m", to), w.below)
		}
		wantOp(t, "To is a part of Key", kind(k, "mm", "m"), w.below)
		for _, to := range []string{"n", "m\x00", "ma", "\xff", "m" + long(api.MaxKey-1)} {
			wantOp(t, "To is above Key", kind(k, "m", to), w.above)
		}
		wantOp(t, "To is too long", kind(k, "m", "n"+long(api.MaxKey)), w.longer)
		wantOp(t, "To is too long, and below Key", kind(k, "m", long(api.MaxKey+1)), w.longer)
	}
}

// P8.1
func TestCheckOfNums(t *testing.T) {
	for _, n := range []api.Num{0, minusZero, least, num.Of(1), num.Of(-1), num.Of(1000), greatest, inf, minusInf, nan} {
		want := api.OK
		if n != 0 {
			want = api.ErrTxn
		}
		for _, op := range ops(get("a"), scan("a", ""), scan("a", "b"), drop("a")) {
			wantOp(t, "an op without Num", with(op, n), want)
		}
		for _, op := range ops(put("a", 0), add("a", 0), move("a", "b", 0), move("b", "a", 0)) {
			wantOp(t, "an op with Num", with(op, n), api.OK)
		}
	}
	for _, n := range []api.Num{nan + 1, nan - 1, nan | minusZero, 0x7ff0000000000001, 0xfff0000000000001, 0xffffffffffffffff} {
		for _, op := range six() {
			wantOp(t, "no num", with(op, n), api.ErrTxn)
		}
	}
}

// of is spans of pairs of texts.
func of(edges ...string) []api.Span {
	var l []api.Span
	for i := 0; i < len(edges); i += 2 {
		l = append(l, api.Span{From: edges[i], To: edges[i+1]})
	}
	return l
}

func wantSpans(t *testing.T, what string, got, want []api.Span) {
	t.Helper()
	if !slices.Equal(got, want) {
		t.Errorf("%s: got %q, want %q", what, got, want)
	}
}

// sets is what ops read, what they write, and both.
type sets struct{ reads, writes, all []api.Span }

func wantSets(t *testing.T, l []api.Op, want sets) {
	t.Helper()
	wantSpans(t, "Reads", txn.Reads(l), want.reads)
	wantSpans(t, "Writes", txn.Writes(l), want.writes)
	wantSpans(t, "All", txn.All(l), want.all)
}

// P8.2, P8.3
func TestSetsOfEachKind(t *testing.T) {
	m := of("m", "m\x00")
	wantSets(t, ops(get("m")), sets{m, nil, m})
	wantSets(t, ops(scan("m", "p")), sets{of("m", "p"), nil, of("m", "p")})
	wantSets(t, ops(scan("m", "")), sets{of("m", ""), nil, of("m", "")})
	wantSets(t, ops(put("m", 7)), sets{nil, m, m})
	wantSets(t, ops(add("m", 7)), sets{m, m, m})
	wantSets(t, ops(drop("m")), sets{m, m, m})
	both := of("m", "m\x00", "p", "p\x00")
	wantSets(t, ops(move("m", "p", 7)), sets{both, both, both})
	wantSets(t, ops(move("p", "m", 0)), sets{both, both, both})
	wantSets(t, nil, sets{})
	wantSets(t, ops(), sets{})
}

// P8.2, P8.3
func TestSetsOfSeveralOps(t *testing.T) {
	a, b := of("a", "a\x00"), of("b", "b\x00")
	ab := slices.Concat(a, b)
	wantSets(t, ops(get("b"), get("a"), get("b")), sets{ab, nil, ab})
	wantSets(t, ops(put("b", 1), put("a", 1), put("b", 2)), sets{nil, ab, ab})
	wantSets(t, ops(get("b"), put("a", 1)), sets{b, a, ab})
	wantSets(t, ops(put("a", 1), get("a")), sets{a, a, a})
	wantSets(t, ops(drop("a"), add("b", 1), move("a", "b", 1)), sets{ab, ab, ab})
	// Keys between which nothing lies touch: their spans are one.
	wide := of("a", "a\x00\x00")
	wantSets(t, ops(get("a\x00"), get("a")), sets{wide, nil, wide})
	wantSets(t, ops(put("a\x00", 1), get("a")), sets{a, of("a\x00", "a\x00\x00"), wide})
	wantSets(t, ops(move("a\x00", "a", 1)), sets{wide, wide, wide})
	// Scans that meet, touch, hold keys, and lie apart.
	wantSets(t, ops(scan("c", "f"), scan("a", "d")), sets{of("a", "f"), nil, of("a", "f")})
	wantSets(t, ops(scan("c", "f"), scan("a", "c")), sets{of("a", "f"), nil, of("a", "f")})
	wantSets(t, ops(scan("d", "f"), scan("a", "c")), sets{of("a", "c", "d", "f"), nil, of("a", "c", "d", "f")})
	wantSets(t, ops(scan("a", "f"), scan("b", "c"), get("d")), sets{of("a", "f"), nil, of("a", "f")})
	wantSets(t, ops(scan("a", "c"), drop("c")), sets{of("a", "c\x00"), of("c", "c\x00"), of("a", "c\x00")})
	wantSets(t, ops(scan("a", "c"), put("b", 1)), sets{of("a", "c"), b, of("a", "c")})
	wantSets(t, ops(scan("m", ""), scan("z", ""), add("a", 1)), sets{of("a", "a\x00", "m", ""), a, of("a", "a\x00", "m", "")})
	wantSets(t, six(), sets{of("a", "c"), ab, of("a", "c")})
	last := long(api.MaxKey)
	wantSets(t, ops(get(last), put(last, 1)), sets{of(last, last+"\x00"), of(last, last+"\x00"), of(last, last+"\x00")})
}

func wantConflict(t *testing.T, a, b []api.Op, want bool) {
	t.Helper()
	if txn.Conflict(a, b) != want || txn.Conflict(b, a) != want {
		t.Errorf("Conflict of %#v and %#v: %t, the other way round %t, want %t", a, b, txn.Conflict(a, b), txn.Conflict(b, a), want)
	}
}

// P8.3
func TestConflictOfThoseThatOnlyRead(t *testing.T) {
	readers := [][]api.Op{ops(get("b")), ops(scan("a", "c")), ops(scan("a", "")), ops(get("a"), get("b"), scan("b", "c"))}
	for _, a := range readers {
		for _, b := range readers {
			wantConflict(t, a, b, false)
		}
		wantConflict(t, a, nil, false)
	}
	wantConflict(t, nil, nil, false)
}

// P8.3
func TestConflictOfThoseThatWrite(t *testing.T) {
	writers := ops(put("b", 1), add("b", 1), drop("b"), move("b", "x", 1), move("x", "b", 1), put("b", 0))
	touched := ops(get("b"), scan("b", ""), scan("a", "c"), scan("b", "b\x00"), scan("a", "b\x00"), put("b", 2), add("b", 2), drop("b"), move("b", "y", 1), move("y", "b", 1))
	apart := ops(get("a"), get("b\x00"), get("bb"), scan("a", "b"), scan("b\x00", "c"), put("a", 2), add("c", 2), drop("c"), move("a", "y", 1))
	for _, w := range writers {
		for _, op := range touched {
			wantConflict(t, ops(w), ops(op), true)
			wantConflict(t, ops(get("f"), w), ops(put("g", 1), op, get("h")), true)
		}
		for _, op := range apart {
			wantConflict(t, ops(w), ops(op), false)
			wantConflict(t, ops(get("f"), w), ops(put("g", 1), op, get("h")), false)
			wantConflict(t, ops(get("f"), w), ops(put("g", 1), op, get("f")), false)
		}
		wantConflict(t, ops(w), ops(w), true)
		wantConflict(t, ops(w), nil, false)
	}
	// What one reads, and the other one writes, is a conflict, though what each writes lies apart.
	wantConflict(t, ops(get("a"), put("b", 1)), ops(get("b"), put("a", 1)), true)
	wantConflict(t, ops(get("a"), put("b", 1)), ops(get("c"), put("a", 1)), true)
	wantConflict(t, ops(get("a"), put("b", 1)), ops(get("a"), put("c", 1)), false)
	wantConflict(t, ops(scan("m", ""), put("b", 1)), ops(put("z", 1)), true)
	wantConflict(t, ops(scan("m", ""), put("b", 1)), ops(put("l", 1)), false)
}
