package txn_test

import (
	"bytes"
	"math"
	"slices"
	"testing"

	"folkmoot/api"
	"folkmoot/num"
	"folkmoot/txn"
)

// laid is bytes by hand: a number as eight bytes, a text as four that say how many it has, and these; the lowest first.
func laid(l ...any) []byte {
	var b []byte
	for _, x := range l {
		text, isText := x.(string)
		n, size := len(text), 4
		if !isText {
			n, size = x.(int), 8
		}
		for i := range size {
			b = append(b, byte(n>>(8*i)))
		}
		b = append(b, text...)
	}
	return b
}

func wantParse(t *testing.T, what string, b []byte, want []api.Op, wantErr api.Errno) {
	t.Helper()
	got, err := txn.Parse(b)
	if !slices.Equal(got, want) || err != wantErr {
		t.Errorf("%s: Parse(%x): %#v, %d, want %#v, %d", what, b, got, err, want, wantErr)
	}
}

// good is transactions of many kinds.
func good() [][]api.Op {
	last, top := long(api.MaxKey), string(bytes.Repeat([]byte{255}, api.MaxKey))
	l := [][]api.Op{
		six(), slices.Repeat(ops(get(last)), api.MaxOps), slices.Repeat(ops(move(top, last, nan)), api.MaxOps),
		ops(scan("\x00", ""), scan("\x00", "\x00\x00"), scan(last, top)), ops(put("ö", minusZero), add("ö", inf), move("b", "a", minusInf)),
		ops(put("a", least), put("a", greatest), put("a", num.Of(-1)), put("a", nan)),
	}
	for _, op := range six() {
		l = append(l, ops(op))
	}
	return l
}

// wrong is ops that are no transaction, of many kinds, which may be too many.
func wrong() [][]api.Op {
	l := [][]api.Op{
		nil, ops(), make([]api.Op, 1), make([]api.Op, api.MaxOps), make([]api.Op, 300), ops(six()[0], api.Op{}), ops(api.Op{}, six()[5]),
		slices.Repeat(ops(get("a")), api.MaxOps+1), slices.Concat(six(), six(), six()), slices.Repeat(ops(scan("a", "")), 100),
		ops(get("")), ops(scan("", "")), ops(scan("", "a")), ops(put("", 1)), ops(add("", nan)), ops(drop("")), ops(move("", "a", 1)), ops(move("a", "", 1)), ops(move("", "", 0)),
		ops(scan("a", "a")), ops(scan("b", "a")), ops(scan("b", "\x00")), ops(scan("a", long(17))), ops(scan(long(17), "")), ops(scan(long(17), long(18))),
		ops(move("a", "a", 0)), ops(put("a", 5), move("a", "a", 5), get("a")), ops(move("a", long(17), 1)), ops(move(long(17), "a", 1)), ops(get(long(2000))),
		ops(kind(api.OpGet, "a", "b")), ops(kind(api.OpPut, "a", "b")), ops(kind(api.OpAdd, "b", "a")), ops(kind(api.OpDrop, "a", "a")),
		ops(with(get("a"), 1)), ops(with(scan("a", ""), minusZero)), ops(with(drop("a"), nan)), ops(put("a", nan+1)), ops(add("a", 0xffffffffffffffff)), ops(move("a", "b", 0x7ff0000000000001)),
	}
	for _, k := range []int{0, 7, -1, 8, 100, math.MaxInt, math.MinInt, 1 << 32, 1<<32 + 1} {
		l = append(l, ops(kind(k, "a", "b")), ops(kind(k, "a", "")), ops(put("a", n5), with(kind(k, "a", "b"), n1), get("a")))
	}
	return l
}

// P8.6
func TestPutLaysNumbersAndTexts(t *testing.T) {
	const five, minus = 0x4014000000000000, math.MinInt
	cases := []struct {
		l    []api.Op
		want []byte
	}{
		{ops(get("a")), laid(1, 1, "a", "", 0)},
		{ops(scan("ab", "c")), laid(1, 2, "ab", "c", 0)},
		{ops(scan("ab", "")), laid(1, 2, "ab", "", 0)},
		{ops(put("a", num.Of(5))), laid(1, 3, "a", "", five)},
		{ops(add("a", minusZero)), laid(1, 4, "a", "", minus)},
		{ops(drop("\x00\xff")), laid(1, 5, "\x00\xff", "", 0)},
		{ops(move("b", "a", num.Of(5))), laid(1, 6, "b", "a", five)},
		{ops(put("k", nan), get("x"), move("k", "x", 0)), laid(3, 3, "k", "", 0x7ff8000000000001, 1, "x", "", 0, 6, "k", "x", 0)},
	}
	for _, c := range cases {
		if got := txn.Put(c.l); !bytes.Equal(got, c.want) {
			t.Errorf("Put(%#v): %x, want %x", c.l, got, c.want)
		}
		wantParse(t, "laid by hand", c.want, c.l, api.OK)
	}
	if got := txn.Put(nil); !bytes.Equal(got, laid(0)) {
		t.Errorf("Put of no ops: %x", got)
	}
	if got, want := txn.Put(ops(get("a"))), "\x01\x00\x00\x00\x00\x00\x00\x00\x01\x00\x00\x00\x00\x00\x00\x00\x01\x00\x00\x00a\x00\x00\x00\x00\x00\x00\x00\x00\x00\x00\x00\x00"; string(got) != want {
		t.Errorf("Put: %q, want %q", got, want)
	}
}

// P8.6
func TestThereAndBack(t *testing.T) {
	for _, l := range good() {
		wantCheck(t, "a good one", l, api.OK)
		b := txn.Put(l)
		wantParse(t, "there and back", b, l, api.OK)
		if again, _ := txn.Parse(b); !bytes.Equal(txn.Put(again), b) {
			t.Errorf("back and there: %#v", again)
		}
	}
}

// P8.6
func TestParseRefusesBytesThatEndTooEarlyOrTooLate(t *testing.T) {
	wantParse(t, "no bytes", nil, nil, api.ErrTxn)
	wantParse(t, "no bytes", []byte{}, nil, api.ErrTxn)
	for _, l := range good() {
		b := txn.Put(l)
		for i := range b {
			wantParse(t, "cut off", b[:i], nil, api.ErrTxn)
			wantParse(t, "without its first bytes", b[i+1:], nil, api.ErrTxn)
		}
		for _, more := range [][]byte{{0}, {1}, {255}, laid(0), laid(""), b, b[8:]} {
			wantParse(t, "more behind", slices.Concat(b, more), nil, api.ErrTxn)
		}
	}
}

// P8.6: what is told of how much there is lies.
func TestParseRefusesCountsThatLie(t *testing.T) {
	one := laid(1, "a", "", 0)
	for _, n := range []int{-1, -8, 0, 2, 7, 8, 9, 1 << 20, 1 << 32, 1<<32 + 1, 1 << 40, 1 << 60, math.MaxInt, math.MinInt, math.MinInt + 1} {
		wantParse(t, "so many, and none", laid(n), nil, api.ErrTxn)
		wantParse(t, "so many, and one", slices.Concat(laid(n), one), nil, api.ErrTxn)
		if n != 7 {
			wantParse(t, "so many, and seven", slices.Concat(laid(n), bytes.Repeat(one, 7)), nil, api.ErrTxn)
		}
		if n != 8 {
			wantParse(t, "so many, and eight", slices.Concat(laid(n), bytes.Repeat(one, 8)), nil, api.ErrTxn)
		}
		wantParse(t, "so many, and nine", slices.Concat(laid(n), bytes.Repeat(one, 9)), nil, api.ErrTxn)
		wantParse(t, "zeros", slices.Concat(laid(n), make([]byte, 24*9)), nil, api.ErrTxn)
	}
	wantParse(t, "eight", slices.Concat(laid(8), bytes.Repeat(one, 8)), slices.Repeat(ops(get("a")), 8), api.OK)
	// Texts that say that they have more bytes, or less.
	for _, size := range []byte{0, 2, 3, 5, 255} {
		b := laid(1, 1, "a", "", 0)
		b[16] = size
		wantParse(t, "a text's length", b, nil, api.ErrTxn)
		b[16], b[19] = 1, size
		if size != 0 {
			wantParse(t, "a text's length in its highest byte", b, nil, api.ErrTxn)
		}
	}
}

// P8.6: too many is ErrTxn here too.
func TestParseRefusesWhatIsNoTransaction(t *testing.T) {
	for _, l := range wrong() {
		if txn.Check(l) == api.OK {
			t.Errorf("Check(%#v): OK", l)
		}
		wantParse(t, "a wrong one", txn.Put(l), nil, api.ErrTxn)
	}
	wantParse(t, "a text of too many bytes", laid(1, 1, long(api.MaxFlat+1), "", 0), nil, api.ErrTxn)
	wantParse(t, "a text of MaxFlat bytes", laid(1, 1, long(api.MaxFlat), "", 0), nil, api.ErrTxn)
}

// P8.6: of any bytes, what is read is what these bytes are; all else is refused.
func TestParseOfSpoiltBytes(t *testing.T) {
	for _, l := range good() {
		b := txn.Put(l)
		if len(b) > 400 {
			continue
		}
		for i := range b {
			for turn := range 256 {
				spoilt := bytes.Clone(b)
				spoilt[i] ^= byte(turn)
				got, err := txn.Parse(spoilt)
				if err == api.OK && (txn.Check(got) != api.OK || !bytes.Equal(txn.Put(got), spoilt)) {
					t.Fatalf("Parse(%x): %#v", spoilt, got)
				}
				if err != api.OK && (err != api.ErrTxn || len(got) != 0) {
					t.Fatalf("Parse(%x): %#v, %d", spoilt, got, err)
				}
			}
		}
	}
}
