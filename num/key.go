package num

import (
	"cmp"

	"folkmoot/api"
)

const keySize = 8 // bytes of a Key

// Compare is -1, 0 or 1: by size, -0 below 0, what is no number above all.
func Compare(a, b api.Num) int { return cmp.Compare(rank(a), rank(b)) }

// Key is eight bytes that stand in the order of Compare.
func Key(n api.Num) string {
	var key [keySize]byte
	left := rank(n)
	for i := range key {
		key[keySize-1-i] = byte(left)
		left >>= 8
	}
	return string(key[:])
}

// FromKey is the num whose Key s is.
func FromKey(s string) (api.Num, api.Errno) {
	if len(s) != keySize {
		return 0, api.ErrNum
	}
	var place uint64
	for i := range keySize {
		place = place<<8 | uint64(s[i])
	}
	n := ranked(place)
	if err := Check(n); err != api.OK {
		return 0, err
	}
	return n, api.OK
}

// rank is a whole number for each num, in the order of Compare.
func rank(n api.Num) uint64 {
	bits := uint64(right(n))
	// Below 0 the greater bits are those of the lesser number, and the sign puts them above all others.
	if bits&sign != 0 {
		return ^bits
	}
	return bits ^ sign
}

// ranked is the bits of which rank makes that number, if they are a num's.
func ranked(place uint64) api.Num {
	if place&sign != 0 {
		return api.Num(place ^ sign)
	}
	return api.Num(^place)
}
