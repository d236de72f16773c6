package txn_test

import (
	"bytes"
	"math"
	"slices"
	"testing"

	"folkmoot/api"
	"folkmoot/txn"
)

// roomy is a copy of a list with spare elements behind it.
func roomy[T any](l []T, spare T) []T { return append(slices.Clone(l), spare, spare, spare)[:len(l)] }

// whole is a copy of a list, with its spare room.
func whole[T any](l []T) []T { return slices.Clone(l[:cap(l)]) }

// spoil writes over all of a list, and over its spare room.
func spoil[T any](l []T, with T) {
	l = l[:cap(l)]
	for i := range l {
		l[i] = with
	}
}

// What is written over lists, or stands in their spare room.
var (
	spareOp   = api.Op{Kind: -7, Key: "spare", To: "room", Num: nan + 7}
	sparePair = pair("spare", nan+7)
	spareSpan = api.Span{From: "spare", To: "room"}
)

// Rule 3: what is handed in is not changed, its spare room neither.
func TestWhatIsHandedInStays(t *testing.T) {
	for _, l := range append(good(), wrong()...) {
		a, b := roomy(l, spareOp), roomy(six(), spareOp)
		data := roomy(few(), sparePair)
		set := roomy(of("", "b", "c", ""), spareSpan)
		writes := roomy(writes(oneSet(), gone("c"), oneSet()), gone("spare"))
		oldA, oldB, oldData, oldSet, oldWrites := whole(a), whole(b), whole(data), whole(set), whole(writes)
		txn.Check(a)
		txn.Reads(a)
		txn.Writes(a)
		txn.All(a)
		txn.Conflict(a, b)
		txn.Conflict(b, a)
		txn.Eval(a, data)
		txn.Pick(data, set)
		txn.Pick(data, set[:0])
		txn.Apply(data, writes...)
		txn.Apply(data[:1], writes...)
		txn.Apply(data[:0], writes[:1]...)
		txn.Put(a)
		if !slices.Equal(whole(a), oldA) || !slices.Equal(whole(b), oldB) {
			t.Fatalf("ops changed: %#v, were %#v", whole(a), oldA)
		}
		if !slices.Equal(whole(data), oldData) || !slices.Equal(whole(set), oldSet) || !slices.Equal(whole(writes), oldWrites) {
			t.Fatalf("changed: %#v %#v %#v, were %#v %#v %#v", whole(data), whole(set), whole(writes), oldData, oldSet, oldWrites)
		}
	}
}

func oneSet() api.Write { return set("b", n1) }

// wantNew asks a call three times: what it answers shares no memory with what it has answered, nor with what was handed in.
func wantNew[T comparable](t *testing.T, what string, spare T, call func() []T) {
	t.Helper()
	first, second := call(), call()
	want := slices.Clone(second)
	spoil(first, spare)
	if !slices.Equal(second, want) {
		t.Fatalf("%s: two answers share: %#v, was %#v", what, second, want)
	}
	spoil(second, spare)
	if third := call(); !slices.Equal(third, want) {
		t.Fatalf("%s: an answer is shared: %#v, was %#v", what, third, want)
	}
}

// Rule 3: what is answered is new each time, spare room too.
func TestAnswersLieApart(t *testing.T) {
	l, data, set := six(), few(), of("", "b", "c", "")
	wantNew(t, "Reads", spareSpan, func() []api.Span { return txn.Reads(l) })
	wantNew(t, "Writes", spareSpan, func() []api.Span { return txn.Writes(l) })
	wantNew(t, "All", spareSpan, func() []api.Span { return txn.All(l) })
	for _, op := range l {
		one := ops(op)
		wantNew(t, "Reads of one", spareSpan, func() []api.Span { return txn.Reads(one) })
		wantNew(t, "Writes of one", spareSpan, func() []api.Span { return txn.Writes(one) })
		wantNew(t, "All of one", spareSpan, func() []api.Span { return txn.All(one) })
	}
	wantNew(t, "what Eval writes", gone("spare"), func() []api.Write { w, _ := txn.Eval(l, data); return w })
	wantNew(t, "Pick", sparePair, func() []api.Pair { return txn.Pick(data, set) })
	wantNew(t, "Pick of all", sparePair, func() []api.Pair { return txn.Pick(data, of("", "")) })
	wantNew(t, "Apply", sparePair, func() []api.Pair { return txn.Apply(data, oneSet()) })
	wantNew(t, "Apply of no writes", sparePair, func() []api.Pair { return txn.Apply(data) })
	wantNew(t, "Apply of what changes nothing", sparePair, func() []api.Pair { return txn.Apply(data, gone("z")) })
	wantNew(t, "Put", 99, func() []byte { return txn.Put(l) })
	b := txn.Put(l)
	wantNew(t, "Parse", spareOp, func() []api.Op { p, _ := txn.Parse(b); return p })
	if !slices.Equal(l, six()) || !slices.Equal(data, few()) || !slices.Equal(set, of("", "b", "c", "")) || !bytes.Equal(b, txn.Put(l)) {
		t.Errorf("an answer shares with an argument: %#v %#v %#v", l, data, set)
	}
}

// Rule 3: the answers of Eval, and the pairs of each, lie apart.
func TestAnswersOfEvalLieApart(t *testing.T) {
	l, data := ops(scan("a", ""), scan("a", ""), get("a"), scan("a", "d"), scan("a", "")), few()
	want := answers(found(few()...), found(few()...), yes(n1), found(few()[:2]...), found(few()...))
	_, first := txn.Eval(l, data)
	_, second := txn.Eval(l, data)
	for i := range first {
		spoil(first[i].Pairs, sparePair)
		first[i].Pairs = nil
		for j := i + 1; j < len(first); j++ {
			if !sameAnswers(first[j:j+1], want[j:j+1]) {
				t.Fatalf("answers %d and %d share: %#v", i, j, first[j])
			}
		}
	}
	spoil(first, no(nan))
	if !sameAnswers(second, want) {
		t.Errorf("two answers share: %#v", second)
	}
	wantData(t, "the data", data, few()...)
}

// Rule 3: bytes that are handed in are not changed, and not kept.
func TestParseTakesNoBytes(t *testing.T) {
	for _, l := range append(good(), wrong()...) {
		b := append(txn.Put(l), 1, 2, 3)
		old := bytes.Clone(b)
		got, err := txn.Parse(b[:len(b)-3])
		if !bytes.Equal(b, old) {
			t.Fatalf("the bytes are %x, were %x", b, old)
		}
		clear(b)
		if err == api.OK && !slices.Equal(got, l) {
			t.Fatalf("the bytes were kept: %#v, want %#v", got, l)
		}
	}
}

// Rule 1, P8.1: of what is no transaction every call still answers, and the same again.
func TestWrongOnesAreAnswered(t *testing.T) {
	all := append(good(), wrong()...)
	for _, l := range wrong() {
		wantSpans(t, "Reads", txn.Reads(l), txn.Reads(l))
		wantSpans(t, "Writes", txn.Writes(l), txn.Writes(l))
		wantSpans(t, "All", txn.All(l), txn.All(l))
		for _, other := range all {
			wantConflict(t, l, other, txn.Conflict(l, other))
		}
		for _, data := range [][]api.Pair{nil, few(), data(pair("", n1), pair("a", nan+1), pair("b", n5))} {
			writes, answers := txn.Eval(l, data)
			wantEval(t, l, data, writes, answers...)
			wantData(t, "Apply", txn.Apply(data, writes...), txn.Apply(data, writes...)...)
		}
		if !bytes.Equal(txn.Put(l), txn.Put(l)) {
			t.Errorf("Put(%#v) is not the same again", l)
		}
	}
}

// Rule 1: data that are none, writes and sets that may not be, are answered, and alike each time.
func TestWrongDataAreAnswered(t *testing.T) {
	for _, data := range [][]api.Pair{
		data(pair("c", n1), pair("a", n2), pair("b", n3)), data(pair("a", n1), pair("a", n2)), data(pair("", n1), pair("", n2)),
		data(pair("a", nan+1), pair(long(17), 0xffffffffffffffff)), slices.Repeat(few(), 100),
	} {
		for _, l := range append(good(), wrong()...) {
			writes, answers := txn.Eval(l, data)
			wantEval(t, l, data, writes, answers...)
		}
		for _, set := range [][]api.Span{of("b", "a"), of("a", "a"), of("b", "c", "a", "b"), of("", "", "", ""), of(long(100), "", "a", long(99))} {
			wantData(t, "Pick", txn.Pick(data, set), txn.Pick(data, set)...)
		}
		l := writes(gone(""), set("", n1), set(long(100), nan+1), api.Write{Key: "a", Num: nan + 1, Gone: true}, set("a", n1), set("a", math.MaxUint64))
		wantData(t, "Apply", txn.Apply(data, l...), txn.Apply(data, l...)...)
	}
}

// Rule 1: so many of them that going through each for each would not end soon.
func TestManyAreAnswered(t *testing.T) {
	const many = 100000
	var gets, puts, moves []api.Op
	var all []api.Pair
	var sets []api.Write
	for i := range many {
		key := string([]byte{byte(i >> 16), byte(i >> 8), byte(i)})
		gets, puts = append(gets, get(key)), append(puts, put(key, n5))
		moves = append(moves, move(key, key+"\x00", n5))
		all, sets = append(all, pair(key, n5)), append(sets, set(key, n5))
	}
	for _, l := range [][]api.Op{gets, puts, moves} {
		wantCheckMany(t, l)
	}
	if len(txn.Reads(gets)) != many || len(txn.Writes(moves)) == 0 || !txn.Conflict(gets, puts) || txn.Conflict(gets, gets) {
		t.Error("the sets of many")
	}
	writes, _ := txn.Eval(puts, all)
	if !slices.Equal(writes, sets) {
		t.Error("the writes of many")
	}
	txn.Eval(moves, all)
	if !slices.Equal(txn.Apply(nil, sets...), all) || !slices.Equal(txn.Pick(all, txn.Reads(gets)), all) {
		t.Error("many data")
	}
	slices.Reverse(sets)
	if !slices.Equal(txn.Apply(all[:many/2], sets...), all) {
		t.Error("many writes")
	}
}

func wantCheckMany(t *testing.T, l []api.Op) {
	t.Helper()
	_, err := txn.Parse(txn.Put(l))
	if check := txn.Check(l); check != api.ErrMany || err != api.ErrTxn {
		t.Errorf("%d ops: Check is %d, Parse %d", len(l), check, err)
	}
}
