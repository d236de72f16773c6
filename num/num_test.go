package num_test

import (
	"math"
	"testing"

	"folkmoot/api"
	"folkmoot/num"
)

// Nums that have names, by their bits.
const (
	zero      = api.Num(0)
	minusZero = api.Num(0x8000000000000000)
	one       = api.Num(0x3ff0000000000000)
	minusOne  = api.Num(0xbff0000000000000)
	least     = api.Num(0x0000000000000001) // the least number above 0
	greatest  = api.Num(0x7fefffffffffffff) // the greatest number
	inf       = api.Num(0x7ff0000000000000)
	minusInf  = api.Num(0xfff0000000000000)
	nan       = api.Num(0x7ff8000000000001)
	minus     = api.Num(0x8000000000000000) // turns the sign
	wide      = api.Num(0x4340000000000000) // 2^53
)

// edges are nums of all kinds, in their order.
func edges() []api.Num {
	above := []api.Num{
		zero, least, 2, 0x000ffffffffffffe, 0x000fffffffffffff, 0x0010000000000000, 0x0010000000000001,
		0x3fe0000000000000, 0x3fefffffffffffff, one, 0x3ff0000000000001, 0x4000000000000000, 0x4014000000000000,
		0x433fffffffffffff, wide, 0x4340000000000001, 0x43e0000000000000, 0x7fe0000000000000, 0x7feffffffffffffe, greatest, inf,
	}
	var l []api.Num
	for i := range above {
		l = append(l, above[len(above)-1-i]|minus)
	}
	return append(append(l, above...), nan)
}

// wrong are bits that are no number, and no num: quiet and signalling ones, with the sign set and without.
func wrong() []api.Num {
	l := []api.Num{minus | nan}
	for _, bits := range []api.Num{
		0x7ff0000000000001, 0x7ff0000000000002, 0x7ff00000ffffffff, 0x7ff4000000000000, 0x7ff4000000000001, 0x7ff7ffffffffffff,
		0x7ff8000000000000, 0x7ff8000000000002, 0x7ff8000000000003, 0x7ff8000100000001, 0x7ffc000000000001, 0x7ffffffffffffffe, 0x7fffffffffffffff,
	} {
		l = append(l, bits, bits|minus)
	}
	return l
}

func wantNum(t *testing.T, what string, got, want api.Num) {
	t.Helper()
	if got != want {
		t.Errorf("%s: got %016x, want %016x", what, uint64(got), uint64(want))
	}
}

// P7.1
func TestOfNumbersThatAreNums(t *testing.T) {
	for n, want := range map[int64]api.Num{
		0:         zero,
		1:         one,
		-1:        minusOne,
		2:         0x4000000000000000,
		3:         0x4008000000000000,
		-5:        0xc014000000000000,
		10:        0x4024000000000000,
		1000:      0x408f400000000000,
		1<<52 + 1: 0x4330000000000001,
		1<<53 - 1: 0x433fffffffffffff,
		1 - 1<<53: 0xc33fffffffffffff,
		1 << 53:   wide,
		-1 << 53:  wide | minus,
		1<<53 + 2: 0x4340000000000001,
		1 << 62:   0x43d0000000000000,

		math.MaxInt64 - 1023: 0x43dfffffffffffff,
		math.MinInt64:        0xc3e0000000000000,
	} {
		wantNum(t, "Of", num.Of(n), want)
		if back := int64(math.Float64frombits(uint64(want))); back != n {
			t.Errorf("Of(%d) is %d", n, back)
		}
	}
}

// P7.1
func TestOfNumbersThatAreRounded(t *testing.T) {
	for n, want := range map[int64]api.Num{
		1<<53 + 1:    wide,               // halfway: down
		1<<53 + 3:    0x4340000000000002, // halfway: up
		1<<53 + 5:    0x4340000000000002,
		1<<53 + 7:    0x4340000000000004,
		1<<54 + 1:    0x4350000000000000, // less than halfway: down
		1<<54 + 2:    0x4350000000000000,
		1<<54 + 3:    0x4350000000000001, // more than halfway: up
		1<<54 + 5:    0x4350000000000001,
		1<<54 + 6:    0x4350000000000002,
		1<<54 - 1:    0x4350000000000000,
		1<<62 + 511:  0x43d0000000000000,
		1<<62 + 512:  0x43d0000000000000,
		1<<62 + 513:  0x43d0000000000001,
		1<<62 + 1536: 0x43d0000000000002,

		math.MaxInt64:        0x43e0000000000000,
		math.MaxInt64 - 511:  0x43e0000000000000,
		math.MaxInt64 - 512:  0x43dfffffffffffff,
		math.MaxInt64 - 1024: 0x43dfffffffffffff,
	} {
		wantNum(t, "Of", num.Of(n), want)
		wantNum(t, "Of below 0", num.Of(-n), want|minus)
	}
	wantNum(t, "Of the one above the least", num.Of(math.MinInt64+1), 0xc3e0000000000000)
}

// P7.2
func TestNumsAreNumsAndRight(t *testing.T) {
	for _, n := range edges() {
		if err := num.Check(n); err != api.OK {
			t.Errorf("Check(%016x): %d", uint64(n), err)
		}
		wantNum(t, "Right", num.Right(uint64(n)), n)
	}
}

// P7.2
func TestOtherBitsAreNoNumsAndMadeRight(t *testing.T) {
	for _, n := range wrong() {
		if err := num.Check(n); err != api.ErrNum {
			t.Errorf("Check(%016x): %d, want ErrNum", uint64(n), err)
		}
		wantNum(t, "Right", num.Right(uint64(n)), nan)
	}
	wantNum(t, "Right of the library's own", num.Right(math.Float64bits(math.NaN())), nan)
}

// P7.3
func TestAddOfNumbers(t *testing.T) {
	half := api.Num(0x3fe0000000000000)
	for _, x := range []struct{ a, b, sum api.Num }{
		{one, one, num.Of(2)},
		{num.Of(2), num.Of(3), num.Of(5)},
		{num.Of(2), num.Of(-3), minusOne},
		{num.Of(-2), num.Of(-3), num.Of(-5)},
		{half, half, one},
		{one, half, 0x3ff8000000000000},
		{num.Of(1<<53 - 1), one, wide},
		{least, least, 2},
		{least, least | minus, zero},
		{0x000fffffffffffff, least, 0x0010000000000000},
		{0x0010000000000000, least | minus, 0x000fffffffffffff},
		{greatest, greatest | minus, zero},
		{greatest, zero, greatest},
		{0x7fe0000000000000, 0x7fdffffffffffffe, greatest},
	} {
		wantSum(t, x.a, x.b, x.sum)
	}
}

// P7.3
func TestAddRounds(t *testing.T) {
	for _, x := range []struct{ a, b, sum api.Num }{
		{wide, one, wide},                                            // halfway: down
		{wide + 1, one, wide + 2},                                    // halfway: up
		{wide, 0x3ff0000000000001, wide + 1},                         // more than halfway
		{wide + 1, 0x3fefffffffffffff, wide + 1},                     // less than halfway
		{one, 0x3ca0000000000000, one},                               // 2^-53: halfway, down
		{one, 0x3ca0000000000001, 0x3ff0000000000001},                // a bit more
		{0x3ff0000000000001, 0x3ca0000000000000, one + 2},            // halfway, up
		{one, least, one},                                            // far too small
		{greatest, least, greatest},                                  // too small, at the other end
		{0x3fb999999999999a, 0x3fc999999999999a, 0x3fd3333333333334}, // a tenth and two
		{0x3fb999999999999a, 0xbfd3333333333333, 0xbfc9999999999999},
	} {
		wantSum(t, x.a, x.b, x.sum)
	}
}

// wantSum asks for a sum either way round, and for that of both with the other sign (but where it is 0: that has one sign for both).
func wantSum(t *testing.T, a, b, sum api.Num) {
	t.Helper()
	wantNum(t, "Add", num.Add(a, b), sum)
	wantNum(t, "Add the other way round", num.Add(b, a), sum)
	if sum != zero && sum != nan {
		wantNum(t, "Add with the other signs", num.Add(a^minus, b^minus), sum^minus)
	}
}

// P7.3
func TestAddBeyondNumbers(t *testing.T) {
	half := api.Num(0x7c90000000000000) // half of the last place of the greatest number
	for _, x := range []struct{ a, b, sum api.Num }{
		{greatest, greatest, inf},
		{0x7fe0000000000000, 0x7fe0000000000000, inf},
		{greatest, 0x7ca0000000000000, inf},
		{0x7fe0000000000000, 0x7fdfffffffffffff, inf},
		{greatest, half, inf}, // halfway: away from what has an odd last bit
		{greatest, half - 1, greatest},
		{inf, greatest, inf},
		{inf, greatest | minus, inf},
		{inf, one, inf},
		{inf, minusOne, inf},
		{inf, zero, inf},
		{inf, minusZero, inf},
		{inf, least | minus, inf},
		{inf, inf, inf},
		{inf, minusInf, nan},
	} {
		wantSum(t, x.a, x.b, x.sum)
	}
}

// P7.3
func TestAddOfWhatIsNoNumber(t *testing.T) {
	for _, n := range edges() {
		wantSum(t, nan, n, nan)
	}
}

// P7.3, P7.6
func TestAddOfZeros(t *testing.T) {
	wantSum(t, zero, zero, zero)
	wantSum(t, zero, minusZero, zero)
	wantNum(t, "-0 and -0", num.Add(minusZero, minusZero), minusZero)
	for _, n := range edges() {
		wantNum(t, "n + -0", num.Add(n, minusZero), n)
		wantNum(t, "-0 + n", num.Add(minusZero, n), n)
		if n != minusZero {
			wantNum(t, "n + 0", num.Add(n, zero), n)
			wantNum(t, "0 + n", num.Add(zero, n), n)
		}
	}
}

// P7.3
func TestAddOfANumAndItsNeg(t *testing.T) {
	for _, n := range edges() {
		want := zero
		if n == inf || n == minusInf || n == nan {
			want = nan
		}
		wantSum(t, n, num.Neg(n), want)
	}
}

// P7.3
func TestNegTurnsTheSign(t *testing.T) {
	wantNum(t, "of 0", num.Neg(zero), minusZero)
	wantNum(t, "of -0", num.Neg(minusZero), zero)
	wantNum(t, "of 1", num.Neg(one), minusOne)
	wantNum(t, "of -5", num.Neg(num.Of(-5)), num.Of(5))
	wantNum(t, "of Inf", num.Neg(inf), minusInf)
	wantNum(t, "of -Inf", num.Neg(minusInf), inf)
	wantNum(t, "of NaN", num.Neg(nan), nan)
	for _, n := range edges() {
		wantNum(t, "twice", num.Neg(num.Neg(n)), n)
		if n != nan {
			wantNum(t, "once", num.Neg(n), n^minus)
		}
	}
}

// P7.3
func TestSumsOfWrongBitsAreThoseOfRight(t *testing.T) {
	for _, w := range wrong() {
		wantNum(t, "Neg", num.Neg(w), nan)
		for _, n := range append(edges(), wrong()...) {
			wantNum(t, "Add", num.Add(w, n), nan)
			wantNum(t, "Add the other way round", num.Add(n, w), nan)
		}
	}
}
