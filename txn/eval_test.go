package txn_test

import (
	"slices"
	"testing"

	"folkmoot/api"
	"folkmoot/num"
	"folkmoot/txn"
)

func pair(key string, n api.Num) api.Pair  { return api.Pair{Key: key, Num: n} }
func data(l ...api.Pair) []api.Pair        { return l }
func set(key string, n api.Num) api.Write  { return api.Write{Key: key, Num: n} }
func gone(key string) api.Write            { return api.Write{Key: key, Gone: true} }
func writes(l ...api.Write) []api.Write    { return l }
func yes(n api.Num) api.Answer             { return api.Answer{Yes: true, Num: n} }
func no(n api.Num) api.Answer              { return api.Answer{Num: n} }
func found(l ...api.Pair) api.Answer       { return api.Answer{Yes: true, Pairs: l} }
func answers(l ...api.Answer) []api.Answer { return l }

func sameAnswers(a, b []api.Answer) bool {
	return slices.EqualFunc(a, b, func(x, y api.Answer) bool {
		return x.Yes == y.Yes && x.Num == y.Num && slices.Equal(x.Pairs, y.Pairs)
	})
}

func wantEval(t *testing.T, l []api.Op, data []api.Pair, want []api.Write, wantAnswers ...api.Answer) {
	t.Helper()
	got, gotAnswers := txn.Eval(l, data)
	if !slices.Equal(got, want) {
		t.Errorf("Eval(%#v, %#v) writes %#v, want %#v", l, data, got, want)
	}
	if !sameAnswers(gotAnswers, wantAnswers) {
		t.Errorf("Eval(%#v, %#v) answers %#v, want %#v", l, data, gotAnswers, wantAnswers)
	}
}

func wantData(t *testing.T, what string, got []api.Pair, want ...api.Pair) {
	t.Helper()
	if !slices.Equal(got, want) {
		t.Errorf("%s: got %#v, want %#v", what, got, want)
	}
}

// Nums of which most tests are made.
var n0, n1, n2, n3, n5, n8 = num.Of(0), num.Of(1), num.Of(2), num.Of(3), num.Of(5), num.Of(8)

// few is data of which ops find something, and to both sides of which something lies.
func few() []api.Pair { return data(pair("a", n1), pair("c", n5), pair("e", n3)) }

// P8.4
func TestGet(t *testing.T) {
	wantEval(t, ops(get("c")), few(), nil, yes(n5))
	wantEval(t, ops(get("b")), few(), nil, no(n0))
	wantEval(t, ops(get("c\x00")), few(), nil, no(n0))
	wantEval(t, ops(get("c")), nil, nil, no(n0))
	wantEval(t, ops(get("e"), get("f"), get("a"), get("e")), few(), nil, yes(n3), no(n0), yes(n1), yes(n3))
	for _, n := range []api.Num{0, minusZero, least, inf, minusInf, nan} {
		wantEval(t, ops(get("c")), data(pair("c", n)), nil, yes(n))
	}
}

// P8.4
func TestScan(t *testing.T) {
	a, c, e := few()[0], few()[1], few()[2]
	wantEval(t, ops(scan("b", "d")), few(), nil, found(c))
	wantEval(t, ops(scan("a", "f")), few(), nil, found(a, c, e))
	wantEval(t, ops(scan("a", "")), few(), nil, found(a, c, e))
	wantEval(t, ops(scan("a", "e")), few(), nil, found(a, c))
	wantEval(t, ops(scan("a", "e\x00")), few(), nil, found(a, c, e))
	wantEval(t, ops(scan("a\x00", "e")), few(), nil, found(c))
	wantEval(t, ops(scan("c", "c\x00")), few(), nil, found(c))
	wantEval(t, ops(scan("c", "")), few(), nil, found(c, e))
	wantEval(t, ops(scan("d", "e")), few(), nil, found())
	wantEval(t, ops(scan("f", "")), few(), nil, found())
	wantEval(t, ops(scan("a", "")), nil, nil, found())
	wantEval(t, ops(scan("e", ""), scan("a", "b")), few(), nil, found(e), found(a))
	wantEval(t, ops(scan("\x00", "")), data(pair("\x00", nan), pair("\xff", minusZero)), nil, found(pair("\x00", nan), pair("\xff", minusZero)))
}

// P8.4: keys rise byte by byte, however many there are.
func TestScanOfManyKeys(t *testing.T) {
	var all []api.Pair
	for i := range 256 {
		key := string([]byte{byte(i)})
		all = append(all, pair(key, num.Of(int64(i))), pair(key+"\x00", n8), pair(key+"\xff", num.Of(-1)))
	}
	for range 20 {
		wantEval(t, ops(scan("\x00", "")), all, nil, found(all...))
		wantEval(t, ops(scan("\x10\x00", "\x20\xff")), all, nil, found(all[3*16+1:3*32+2]...))
	}
}

// P8.4
func TestPut(t *testing.T) {
	wantEval(t, ops(put("c", n8)), few(), writes(set("c", n8)), yes(0))
	wantEval(t, ops(put("b", n8)), few(), writes(set("b", n8)), yes(0))
	wantEval(t, ops(put("c", n5)), few(), writes(set("c", n5)), yes(0))
	wantEval(t, ops(put("c", n8)), nil, writes(set("c", n8)), yes(0))
	for _, n := range []api.Num{0, minusZero, least, inf, minusInf, nan} {
		wantEval(t, ops(put("c", n)), few(), writes(set("c", n)), yes(0))
		wantEval(t, ops(put("b", n), get("b")), few(), writes(set("b", n)), yes(0), yes(n))
	}
}

// P8.4
func TestAdd(t *testing.T) {
	wantEval(t, ops(add("c", n3)), few(), writes(set("c", n8)), yes(n8))
	wantEval(t, ops(add("b", n3)), few(), writes(set("b", n3)), no(n3))
	wantEval(t, ops(add("c", num.Of(-5))), few(), writes(set("c", n0)), yes(n0))
	wantEval(t, ops(add("c", n0)), few(), writes(set("c", n5)), yes(n5))
	wantEval(t, ops(add("b", n0)), few(), writes(set("b", n0)), no(n0))
	// What is not there is 0: and 0 and -0 are 0, but -0 and -0 are -0.
	wantEval(t, ops(add("b", minusZero)), few(), writes(set("b", 0)), no(0))
	wantEval(t, ops(add("b", minusZero)), data(pair("b", minusZero)), writes(set("b", minusZero)), yes(minusZero))
	wantEval(t, ops(add("b", 0)), data(pair("b", minusZero)), writes(set("b", 0)), yes(0))
	wantEval(t, ops(add("b", minusInf)), data(pair("b", inf)), writes(set("b", nan)), yes(nan))
	wantEval(t, ops(add("b", nan)), few(), writes(set("b", nan)), no(nan))
	wantEval(t, ops(add("b", greatest), add("b", greatest)), few(), writes(set("b", inf)), no(greatest), yes(inf))
}

// P8.4
func TestDrop(t *testing.T) {
	wantEval(t, ops(drop("c")), few(), writes(gone("c")), yes(0))
	wantEval(t, ops(drop("b")), few(), writes(gone("b")), no(0))
	wantEval(t, ops(drop("b")), nil, writes(gone("b")), no(0))
	wantEval(t, ops(drop("c"), drop("c")), few(), writes(gone("c")), yes(0), no(0))
	wantEval(t, ops(drop("c")), data(pair("c", 0)), writes(gone("c")), yes(0))
}

// P8.4
func TestMovesThatAreCovered(t *testing.T) {
	wantEval(t, ops(move("c", "a", n2)), few(), writes(set("a", n3), set("c", n3)), yes(0))
	wantEval(t, ops(move("c", "a", n5)), few(), writes(set("a", num.Of(6)), set("c", n0)), yes(0))
	wantEval(t, ops(move("c", "b", n5)), few(), writes(set("b", n5), set("c", n0)), yes(0))
	wantEval(t, ops(move("a", "e", least)), few(), writes(set("a", n1), set("e", n3)), yes(0))
	// 0 is covered by what is not there; then both are there.
	wantEval(t, ops(move("b", "d", 0)), few(), writes(set("b", 0), set("d", 0)), yes(0))
	wantEval(t, ops(move("b", "d", minusZero)), few(), writes(set("b", 0), set("d", 0)), yes(0))
	wantEval(t, ops(move("x", "y", 0)), nil, writes(set("x", 0), set("y", 0)), yes(0))
	wantEval(t, ops(move("c", "b", 0)), few(), writes(set("b", 0), set("c", n5)), yes(0))
	wantEval(t, ops(move("b", "c", 0)), few(), writes(set("b", 0), set("c", n5)), yes(0))
	wantEval(t, ops(move("c", "b", minusZero)), few(), writes(set("b", 0), set("c", n5)), yes(0))
}

// P8.4: signs of zeros, and what is greater than all numbers.
func TestMovesOfEdges(t *testing.T) {
	two := func(a, b api.Num) []api.Pair { return data(pair("a", a), pair("b", b)) }
	for _, x := range []struct{ a, b, n, leftA, leftB api.Num }{
		{minusZero, minusZero, 0, minusZero, 0},
		{minusZero, minusZero, minusZero, 0, minusZero},
		{0, minusZero, 0, 0, 0},
		{0, minusZero, minusZero, 0, minusZero},
		{inf, 0, n5, inf, n5},
		{inf, 0, inf, nan, inf},
		{inf, minusInf, inf, nan, nan},
		{n5, nan, n5, 0, nan},
		{n5, minusInf, n5, 0, minusInf},
		{greatest, greatest, greatest, 0, inf},
		{least, num.Of(-1), least, 0, num.Of(-1)},
	} {
		wantEval(t, ops(move("a", "b", x.n)), two(x.a, x.b), writes(set("a", x.leftA), set("b", x.leftB)), yes(0))
	}
	for _, x := range []struct{ a, n api.Num }{
		{n5, num.Of(6)}, {n5, inf}, {n5, nan}, {n5, num.Of(-1)}, {n5, minusInf}, {n5, least | minusZero},
		{n0, least}, {minusZero, least}, {num.Of(-1), 0}, {num.Of(-1), minusZero}, {num.Of(-1), num.Of(-2)},
		{nan, 0}, {nan, minusZero}, {nan, n1}, {nan, nan}, {nan, inf}, {inf, nan}, {inf, num.Of(-1)}, {minusInf, minusInf}, {minusInf, 0}, {greatest, inf},
	} {
		wantEval(t, ops(move("a", "b", x.n)), two(x.a, n5), nil, no(0))
	}
}

// P8.4
func TestMovesThatAreNotCovered(t *testing.T) {
	for _, n := range []api.Num{num.Of(6), n8, inf, nan, num.Of(-1), minusInf} {
		wantEval(t, ops(move("c", "a", n)), few(), nil, no(0))
		wantEval(t, ops(move("c", "b", n)), few(), nil, no(0))
		wantEval(t, ops(move("b", "c", n)), few(), nil, no(0))
		wantEval(t, ops(move("x", "y", n)), nil, nil, no(0))
		// Nothing is done: what was not there is not, and what is scanned is as it was.
		wantEval(t, ops(move("b", "d", n), get("b"), get("d"), scan("a", "")), few(), nil, no(0), no(0), no(0), found(few()...))
	}
	wantEval(t, ops(move("b", "c", least)), few(), nil, no(0))
}

// P8.4: each op upon what the ones ahead of it have made.
func TestOpsOneBehindTheOther(t *testing.T) {
	wantEval(t, ops(put("b", n2), get("b"), add("b", n3), get("b"), drop("b"), get("b"), add("b", n1), get("b")), few(),
		writes(set("b", n1)), yes(0), yes(n2), yes(n5), yes(n5), yes(0), no(0), no(n1), yes(n1))
	wantEval(t, ops(drop("c"), add("c", n2)), few(), writes(set("c", n2)), yes(0), no(n2))
	wantEval(t, ops(drop("c"), move("c", "a", n5)), few(), writes(gone("c")), yes(0), no(0))
	wantEval(t, ops(drop("c"), move("c", "a", n0)), few(), writes(set("a", n1), set("c", n0)), yes(0), yes(0))
	wantEval(t, ops(put("c", n0), drop("c"), drop("c")), few(), writes(gone("c")), yes(0), yes(0), no(0))
	wantEval(t, ops(add("b", n1), drop("b")), few(), writes(gone("b")), no(n1), yes(0))
	wantEval(t, ops(move("c", "b", n2), move("b", "c", n2), move("b", "c", least)), few(), writes(set("b", n0), set("c", n5)), yes(0), yes(0), no(0))
	wantEval(t, ops(move("c", "b", n5), drop("c"), get("c"), get("b")), few(), writes(set("b", n5), gone("c")), yes(0), yes(0), no(0), yes(n5))
	wantEval(t, ops(put("b", n8), move("b", "d", n8), move("d", "f", n5)), nil,
		writes(set("b", n0), set("d", n3), set("f", n5)), yes(0), yes(0), yes(0))
	wantEval(t, ops(add("a", n5), move("a", "b", n3), get("b")), nil, writes(set("a", n2), set("b", n3)), no(n5), yes(0), yes(n3))
	wantEval(t, ops(get("c"), put("c", n1), get("c"), put("c", n2), get("c")), few(), writes(set("c", n2)), yes(n5), yes(0), yes(n1), yes(0), yes(n2))
}

// P8.4: a scan, too.
func TestScansOfWhatWasMadeAndTakenAway(t *testing.T) {
	a, e := few()[0], few()[2]
	wantEval(t, ops(scan("a", ""), drop("c"), scan("a", ""), put("d", n8), scan("b", ""), add("b", n2), scan("a", "e")), few(),
		writes(set("b", n2), gone("c"), set("d", n8)),
		found(few()...), yes(0), found(a, e), yes(0), found(pair("d", n8), e), no(n2), found(a, pair("b", n2), pair("d", n8)))
	wantEval(t, ops(move("c", "b", n2), scan("b", "d"), drop("b"), scan("b", "d")), few(),
		writes(gone("b"), set("c", n3)), yes(0), found(pair("b", n2), pair("c", n3)), yes(0), found(pair("c", n3)))
	wantEval(t, ops(put("z", n1), put("y", n2), put("x", n3), scan("x", "")), nil,
		writes(set("x", n3), set("y", n2), set("z", n1)), yes(0), yes(0), yes(0), found(pair("x", n3), pair("y", n2), pair("z", n1)))
}

// P8.4: one a key, by rising Key, whatever the order of the ops.
func TestWritesRise(t *testing.T) {
	wantEval(t, ops(put("d", n1), drop("b"), add("c", n1), put("a", n2), put("d", n3), drop("f"), move("c", "b", n2), drop("a")), few(),
		writes(gone("a"), set("b", n2), set("c", num.Of(4)), set("d", n3), gone("f")),
		yes(0), no(0), yes(num.Of(6)), yes(0), yes(0), no(0), yes(0), yes(0))
	wantEval(t, ops(put("a\x00", n1), put("\xff", n1), put("a", n1), put("aa", n1), put("\x00", n1)), nil,
		writes(set("\x00", n1), set("a", n1), set("a\x00", n1), set("aa", n1), set("\xff", n1)), yes(0), yes(0), yes(0), yes(0), yes(0))
	wantEval(t, ops(put("b", n1), put("b", n1), put("b", n1), put("b", n1)), few(), writes(set("b", n1)), yes(0), yes(0), yes(0), yes(0))
}

// P8.4
func TestEvalOfNothing(t *testing.T) {
	wantEval(t, nil, nil, nil)
	wantEval(t, ops(), few(), nil)
	wantEval(t, ops(), data(), nil)
	wantEval(t, ops(get("a"), scan("a", ""), put("b", n2), add("c", n3), drop("d"), move("e", "f", n1)), data(),
		writes(set("b", n2), set("c", n3), gone("d")), no(0), found(), yes(0), no(n3), no(0), no(0))
}

// P8.5
func TestPick(t *testing.T) {
	a, c, e := few()[0], few()[1], few()[2]
	wantData(t, "no spans", txn.Pick(few(), nil))
	wantData(t, "no spans", txn.Pick(few(), of()))
	wantData(t, "no data", txn.Pick(nil, of("", "")))
	wantData(t, "neither", txn.Pick(nil, nil))
	wantData(t, "all keys", txn.Pick(few(), of("", "")), few()...)
	wantData(t, "all that are there", txn.Pick(few(), of("a", "e\x00")), few()...)
	wantData(t, "some, of one span", txn.Pick(few(), of("b", "d")), c)
	wantData(t, "from a key on, below another one", txn.Pick(few(), of("a", "e")), a, c)
	wantData(t, "behind a key", txn.Pick(few(), of("a\x00", "")), c, e)
	wantData(t, "points", txn.Pick(few(), of("a", "a\x00", "e", "e\x00")), a, e)
	wantData(t, "points that are not there", txn.Pick(few(), of("b", "b\x00", "d", "d\x00")))
	wantData(t, "several spans", txn.Pick(few(), of("", "b", "b\x00", "c", "d", "")), a, e)
	wantData(t, "ahead of all", txn.Pick(few(), of("", "a")))
	wantData(t, "behind all", txn.Pick(few(), of("e\x00", "")))
	odd := data(pair("a", nan), pair("b", minusZero), pair("c", 0))
	wantData(t, "nums as they are", txn.Pick(odd, of("", "")), odd...)
}

// P8.5
func TestApply(t *testing.T) {
	a, c, e := few()[0], few()[1], few()[2]
	wantData(t, "no writes", txn.Apply(few()), few()...)
	wantData(t, "no writes", txn.Apply(few(), nil...), few()...)
	wantData(t, "nothing", txn.Apply(nil))
	wantData(t, "upon nothing", txn.Apply(nil, set("b", n2), set("a", n1)), pair("a", n1), pair("b", n2))
	wantData(t, "a key that is there", txn.Apply(few(), set("c", n8)), a, pair("c", n8), e)
	wantData(t, "keys that are not", txn.Apply(few(), set("f", n8), set("b", n2), set("A", n1)),
		pair("A", n1), a, pair("b", n2), c, e, pair("f", n8))
	wantData(t, "the same num", txn.Apply(few(), set("c", n5)), few()...)
	wantData(t, "Gone", txn.Apply(few(), gone("c")), a, e)
	wantData(t, "Gone, of what is not there", txn.Apply(few(), gone("b"), gone("z"), gone("c\x00")), few()...)
	wantData(t, "Gone, upon nothing", txn.Apply(nil, gone("a")))
	wantData(t, "all Gone", txn.Apply(few(), gone("a"), gone("e"), gone("c")))
	wantData(t, "one key several times", txn.Apply(few(), set("c", n1), set("c", n2), set("c", n3)), a, pair("c", n3), e)
	wantData(t, "set, then Gone", txn.Apply(few(), set("c", n1), gone("c"), set("b", n1), gone("b")), a, e)
	wantData(t, "Gone, then set", txn.Apply(few(), gone("c"), set("c", n1), gone("b"), set("b", 0)), a, pair("b", 0), pair("c", n1), e)
	wantData(t, "Gone, set, Gone", txn.Apply(few(), gone("a"), set("a", n2), gone("a")), c, e)
	wantData(t, "nums as they are", txn.Apply(few(), set("a", nan), set("b", minusZero), set("c", 0)),
		pair("a", nan), pair("b", minusZero), pair("c", 0), e)
}

// P8.5: what is Gone is gone, whatever num is told beside it.
func TestApplyOfGoneWritesWithNums(t *testing.T) {
	wantData(t, "Gone, with a num", txn.Apply(few(), api.Write{Key: "c", Num: n8, Gone: true}, api.Write{Key: "b", Num: n8, Gone: true}), few()[0], few()[2])
}
