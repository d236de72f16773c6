package num_test

import (
	"cmp"
	"slices"
	"strings"
	"testing"

	"folkmoot/api"
	"folkmoot/num"
)

// bytesOf are the eight bytes of a number, the highest first.
func bytesOf(x uint64) string {
	var b []byte
	for shift := 56; shift >= 0; shift -= 8 {
		b = append(b, byte(x>>shift))
	}
	return string(b)
}

// P7.4
func TestCompareIsTheOrderOfTheEdges(t *testing.T) {
	l := edges()
	for i, a := range l {
		for j, b := range l {
			if got := num.Compare(a, b); got != cmp.Compare(i, j) {
				t.Errorf("Compare(%016x, %016x): %d", uint64(a), uint64(b), got)
			}
		}
	}
}

// P7.4
func TestCoversEachPairOfEdges(t *testing.T) {
	l := edges()
	for i, a := range l {
		for j, b := range l {
			want := a != nan && b != nan && (i >= j || a == minusZero && b == zero)
			if got := num.Covers(a, b); got != want {
				t.Errorf("Covers(%016x, %016x): %t", uint64(a), uint64(b), got)
			}
		}
	}
}

// P7.4
func TestCompareAndCoversByName(t *testing.T) {
	for _, x := range []struct {
		a, b    api.Num
		compare int
		covers  bool
	}{
		{minusZero, zero, -1, true},
		{zero, minusZero, 1, true},
		{zero, zero, 0, true},
		{one, zero, 1, true},
		{zero, one, -1, false},
		{minusOne, minusZero, -1, false},
		{num.Of(-5), minusOne, -1, false},
		{num.Of(5), num.Of(5), 0, true},
		{inf, greatest, 1, true},
		{greatest, inf, -1, false},
		{inf, inf, 0, true},
		{minusInf, minusInf, 0, true},
		{minusInf, inf, -1, false},
		{nan, inf, 1, false},
		{inf, nan, -1, false},
		{nan, minusInf, 1, false},
		{nan, nan, 0, false},
		{nan, zero, 1, false},
	} {
		if got := num.Compare(x.a, x.b); got != x.compare {
			t.Errorf("Compare(%016x, %016x): %d", uint64(x.a), uint64(x.b), got)
		}
		if got := num.Covers(x.a, x.b); got != x.covers {
			t.Errorf("Covers(%016x, %016x): %t", uint64(x.a), uint64(x.b), got)
		}
	}
}

// P7.4
func TestCompareAndCoversOfWrongBitsAreThoseOfRight(t *testing.T) {
	for _, w := range wrong() {
		for _, n := range append(edges(), wrong()...) {
			if got := num.Compare(w, n); got != num.Compare(nan, n) {
				t.Errorf("Compare(%016x, %016x): %d", uint64(w), uint64(n), got)
			}
			if got := num.Compare(n, w); got != num.Compare(n, nan) {
				t.Errorf("Compare(%016x, %016x): %d", uint64(n), uint64(w), got)
			}
			if num.Covers(w, n) || num.Covers(n, w) {
				t.Errorf("%016x or %016x covers the other one", uint64(w), uint64(n))
			}
		}
		if num.Compare(w, nan) != 0 || num.Compare(w, inf) != 1 || num.Compare(inf, w) != -1 {
			t.Errorf("Compare of %016x is not that of NaN", uint64(w))
		}
	}
}

// P7.5
func TestKeysByName(t *testing.T) {
	for n, want := range map[api.Num]uint64{
		minusInf:           0x000fffffffffffff,
		greatest | minus:   0x0010000000000000,
		num.Of(-5):         0x3febffffffffffff,
		minusOne:           0x400fffffffffffff,
		least | minus:      0x7ffffffffffffffe,
		minusZero:          0x7fffffffffffffff,
		zero:               0x8000000000000000,
		least:              0x8000000000000001,
		0x0123456789abcdef: 0x8123456789abcdef,
		0x8123456789abcdef: 0x7edcba9876543210,
		one:                0xbff0000000000000,
		num.Of(5):          0xc014000000000000,
		greatest:           0xffefffffffffffff,
		inf:                0xfff0000000000000,
		nan:                0xfff8000000000001,
	} {
		if got := num.Key(n); got != bytesOf(want) {
			t.Errorf("Key(%016x): %x, want %016x", uint64(n), got, want)
		}
	}
}

// wantBack asks for a num's key, and the way back.
func wantBack(t *testing.T, n api.Num) {
	t.Helper()
	key := num.Key(n)
	if len(key) != 8 {
		t.Errorf("Key(%016x) has %d bytes", uint64(n), len(key))
	}
	if back, err := num.FromKey(key); back != n || err != api.OK {
		t.Errorf("FromKey of the key of %016x: %016x, %d", uint64(n), uint64(back), err)
	}
}

// P7.5
func TestKeysThereAndBack(t *testing.T) {
	for _, n := range edges() {
		wantBack(t, n)
	}
	for bit := range 64 {
		wantBack(t, num.Right(1<<bit))
		wantBack(t, num.Right(1<<bit-1))
		wantBack(t, num.Right(uint64(one)^1<<bit))
	}
}

// P7.5, P7.6
func TestKeysAreInTheOrderOfCompare(t *testing.T) {
	l := edges()
	for _, a := range l {
		for _, b := range l {
			if strings.Compare(num.Key(a), num.Key(b)) != num.Compare(a, b) {
				t.Errorf("the keys of %016x and %016x are not in their order", uint64(a), uint64(b))
			}
		}
	}
	if !slices.IsSortedFunc(l, func(a, b api.Num) int { return strings.Compare(num.Key(a), num.Key(b)) }) {
		t.Error("the edges' keys do not rise")
	}
}

// P7.5
func TestKeysOfWrongBitsAreThatOfRight(t *testing.T) {
	for _, w := range wrong() {
		if got := num.Key(w); got != num.Key(nan) {
			t.Errorf("Key(%016x): %x", uint64(w), got)
		}
	}
}

func wantNoKey(t *testing.T, what, s string) {
	t.Helper()
	if n, err := num.FromKey(s); n != 0 || err != api.ErrNum {
		t.Errorf("%s: FromKey(%x) is %016x, %d", what, s, uint64(n), err)
	}
}

// P7.5
func TestFromKeyOfOtherThanEightBytes(t *testing.T) {
	wantNoKey(t, "no bytes", "")
	for _, n := range edges() {
		key := num.Key(n)
		for i := range key {
			wantNoKey(t, "cut off", key[:i])
			wantNoKey(t, "cut off at the front", key[i+1:])
		}
		wantNoKey(t, "a byte more", key+"\x00")
		wantNoKey(t, "a byte more", key+"\xff")
		wantNoKey(t, "a byte ahead", "\x00"+key)
		wantNoKey(t, "twice", key+key)
	}
	wantNoKey(t, "eight letters of two bytes", "äöüßäöüß")
	wantNoKey(t, "very many", strings.Repeat(num.Key(one), 1<<17))
	wantNoKey(t, "very many zeros", strings.Repeat("\x00", 1<<20))
}

// P7.5
func TestFromKeyOfEightBytesThatAreNoKey(t *testing.T) {
	for _, x := range []uint64{
		0, 1, 0x0007fffffffffffe, 0x0007ffffffffffff, 0x000ffffffffffffe,
		0xfff0000000000001, 0xfff7ffffffffffff, 0xfff8000000000000, 0xfff8000000000002, 0xfffffffffffffffe, 0xffffffffffffffff,
	} {
		wantNoKey(t, "by name", bytesOf(x))
	}
	for _, w := range wrong() {
		if w&minus != 0 {
			wantNoKey(t, "with the sign set", bytesOf(^uint64(w)))
		} else {
			wantNoKey(t, "without the sign", bytesOf(uint64(w^minus)))
		}
	}
}

// P7.5
func TestFromKeyOfAnyEightLetters(t *testing.T) {
	for s, want := range map[string]api.Num{
		"abcdefgh": 0x9e9d9c9b9a999897,
		"        ": 0xdfdfdfdfdfdfdfdf,
		"äöüß":     0x43a4c3b6c3bcc39f,
	} {
		got, err := num.FromKey(s)
		if got != want || err != api.OK || num.Key(got) != s {
			t.Errorf("FromKey(%s): %016x, %d", s, uint64(got), err)
		}
	}
}
