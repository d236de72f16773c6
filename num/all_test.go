package num_test

import (
	"math"
	"math/big"
	"strings"
	"testing"

	"folkmoot/api"
	"folkmoot/num"
)

// dice answers any bits, the same ones in every run.
func dice(seed uint64) func() uint64 {
	return func() uint64 {
		seed += 0x9e3779b97f4a7c15
		x := (seed ^ seed>>30) * 0xbf58476d1ce4e5b9
		x = (x ^ x>>27) * 0x94d049bb133111eb
		return x ^ x>>31
	}
}

// anyNum is a num: an edge, one near an edge, a whole number, or any at all.
func anyNum(dice func() uint64) api.Num {
	l := edges()
	edge := uint64(l[dice()%uint64(len(l))])
	switch dice() % 4 {
	case 0:
		return api.Num(edge)
	case 1:
		return num.Right(edge + dice()%9 - 4)
	case 2:
		return num.Of(int64(dice()) >> (dice() % 64))
	}
	return num.Right(dice())
}

// near is a num whose size is about that of another one.
func near(n api.Num, dice func() uint64) api.Num {
	const size = 0x7ff0000000000000
	return num.Right(dice()&^size | (uint64(n)+dice()%(5<<52))&size)
}

// isNan tells by the bits alone whether they are no number.
func isNan(bits uint64) bool { return bits<<1 > 0xffe0000000000000 }

// P7.1: any numbers, rounded otherwise.
func TestOfAnyNumber(t *testing.T) {
	dice := dice(1)
	for range 100000 {
		n := int64(dice()) >> (dice() % 64)
		x, _ := new(big.Float).SetInt64(n).Float64()
		wantNum(t, "Of", num.Of(n), api.Num(math.Float64bits(x)))
	}
}

// P7.2: any bits, with and without all that tells of no number.
func TestAnyBits(t *testing.T) {
	dice := dice(2)
	for range 100000 {
		for _, bits := range []uint64{dice(), dice() | 0x7ff0000000000000, dice()&0x800fffff00000001 | 0x7ff0000000000000, dice() &^ 0x7ff0000000000000} {
			want, check := api.Num(bits), api.OK
			if isNan(bits) {
				want = nan
			}
			if want != api.Num(bits) {
				check = api.ErrNum
			}
			wantNum(t, "Right", num.Right(bits), want)
			if err := num.Check(api.Num(bits)); err != check {
				t.Fatalf("Check(%016x): %d", bits, err)
			}
		}
	}
}

// sum is the sum of two nums, reckoned exactly, and rounded once.
func sum(a, b api.Num) api.Num {
	x, y := math.Float64frombits(uint64(a)), math.Float64frombits(uint64(b))
	if a == nan || b == nan || math.IsInf(x, 0) && a == b^minus {
		return nan
	}
	const exact = 2200 // bits: from the least place of the least number up to the greatest one, twice
	z := new(big.Float).SetPrec(exact).SetFloat64(x)
	z.Add(z, new(big.Float).SetPrec(exact).SetFloat64(y))
	rounded, _ := z.Float64()
	return api.Num(math.Float64bits(rounded))
}

// P7.3, P7.6: any sums, reckoned exactly first.
func TestAnySum(t *testing.T) {
	dice := dice(3)
	for range 50000 {
		a := anyNum(dice)
		for _, b := range []api.Num{anyNum(dice), near(a, dice)} {
			want := sum(a, b)
			wantNum(t, "Add", num.Add(a, b), want)
			wantNum(t, "Add the other way round", num.Add(b, a), want)
			wantNum(t, "Add again", num.Add(a, b), want)
		}
	}
}

// P7.3: every sum and every turned sign is a num.
func TestSumsAreNums(t *testing.T) {
	dice := dice(4)
	l := append(edges(), wrong()...)
	for _, a := range l {
		for _, b := range append(l, api.Num(dice())) {
			if num.Check(num.Add(a, b)) != api.OK || num.Check(num.Neg(b)) != api.OK {
				t.Fatalf("of %016x and %016x comes what is no num", uint64(a), uint64(b))
			}
		}
	}
}

// inOrder is -1, 0 or 1 of two nums, told by floats, and of zeros by their signs.
func inOrder(a, b api.Num) int {
	x, y := math.Float64frombits(uint64(a)), math.Float64frombits(uint64(b))
	switch {
	case a == b:
		return 0
	case b == nan || x < y:
		return -1
	case a == nan || x > y:
		return 1
	case math.Signbit(x):
		return -1
	}
	return 1
}

// P7.4, P7.5, P7.6: one order of any nums, that of Compare, of the keys, and of floats.
func TestOneOrderOfAnyNums(t *testing.T) {
	dice := dice(5)
	for range 100000 {
		a := anyNum(dice)
		for _, b := range []api.Num{a, anyNum(dice), near(a, dice), num.Neg(a), num.Right(uint64(a) + 1)} {
			want := inOrder(a, b)
			if num.Compare(a, b) != want || num.Compare(b, a) != -want || (want == 0) != (a == b) {
				t.Fatalf("Compare(%016x, %016x) is %d, want %d", uint64(a), uint64(b), num.Compare(a, b), want)
			}
			if strings.Compare(num.Key(a), num.Key(b)) != want {
				t.Fatalf("the keys of %016x and %016x are not in their order", uint64(a), uint64(b))
			}
			less := math.Float64frombits(uint64(a)) < math.Float64frombits(uint64(b))
			if num.Covers(a, b) != (a != nan && b != nan && !less) {
				t.Fatalf("Covers(%016x, %016x): %t", uint64(a), uint64(b), num.Covers(a, b))
			}
		}
		wantBack(t, a)
	}
}

// P7.5: of any eight bytes FromKey is the num whose Key they are, or there is none.
func TestFromKeyOfAnyBytes(t *testing.T) {
	dice := dice(6)
	for range 100000 {
		for _, x := range []uint64{dice(), dice() >> 12, dice() | 0xfff0000000000000} {
			bits := x ^ 1<<63
			if x>>63 == 0 {
				bits = ^x
			}
			n, err := num.FromKey(bytesOf(x))
			if isNan(bits) && bits != uint64(nan) {
				wantNoKey(t, "no num's", bytesOf(x))
			} else if n != api.Num(bits) || err != api.OK || num.Key(n) != bytesOf(x) {
				t.Fatalf("FromKey(%016x): %016x, %d", x, uint64(n), err)
			}
		}
	}
}
