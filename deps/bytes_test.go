package deps_test

import (
	"bytes"
	"math"
	"slices"
	"testing"

	"folkmoot/api"
	"folkmoot/deps"
)

// numbers is the bytes of numbers, eight each, the lowest first.
func numbers(l ...int64) []byte {
	var b []byte
	for _, n := range l {
		for i := range 8 {
			b = append(b, byte(n>>(8*i)))
		}
	}
	return b
}

// good is dependencies of all kinds that may be.
func good() [][]api.Dep {
	return [][]api.Dep{
		nil, list(dep(0)), list(dep(7)), list(dep(3, at(1, 1))), three(), full(0), full(3), full(api.MaxDeps / api.MaxShards),
		list(dep(0, run(1, api.MaxDeps)...)), list(dep(5, at(1, 1), at(api.MaxTime, api.MaxNode))), list(dep(0), dep(1), dep(2, at(258, 7))),
	}
}

// wrong is what are no dependencies, of many kinds.
func wrong() [][]api.Dep {
	return [][]api.Dep{
		list(dep(-1)), list(dep(api.MaxShards)), list(dep(math.MaxInt)), list(dep(math.MinInt)), list(dep(1 << 32)),
		list(dep(1), dep(0)), list(dep(2), dep(2)), list(dep(0, at(3, 1)), dep(0, at(1, 1)), dep(0)), append(full(1), dep(8)), append(full(0), dep(7)),
		make([]api.Dep, 9), make([]api.Dep, 300), list(dep(0, at(2, 1), at(1, 1))), list(dep(0, at(1, 1), at(1, 1))),
		list(dep(0, api.Stamp{})), list(dep(0, at(1, 0))), list(dep(0, at(1, 8))), list(dep(0, at(api.MaxTime+1, 1))), list(dep(0, at(-3, -3))),
		list(dep(0), dep(1, at(5, 5), at(math.MinInt64, math.MinInt), at(math.MaxInt64, math.MaxInt), at(5, 5))),
		list(dep(0, run(1, api.MaxDeps+1)...)), list(dep(0, run(1, 300)...), dep(1, run(1, 213)...)), list(dep(9, run(1, 2000)...), dep(-9, at(0, 0))),
		append(full(65), dep(3, at(1, 1), at(1, 1))),
	}
}

func wantParse(t *testing.T, what string, b []byte, want []api.Dep, wantErr api.Errno) {
	t.Helper()
	got, err := deps.Parse(b)
	if !same(got, want) || err != wantErr {
		t.Errorf("%s: Parse(%x): %v, %d, want %v, %d", what, b, got, err, want, wantErr)
	}
}

// P6.5
func TestPutLaysNumbersAndLists(t *testing.T) {
	cases := []struct {
		d    []api.Dep
		want []byte
	}{
		{nil, numbers(0)},
		{list(), numbers(0)},
		{list(dep(0)), numbers(1, 0, 0)},
		{list(dep(7)), numbers(1, 7, 0)},
		{list(dep(3, at(258, 2))), numbers(1, 3, 1, 258, 2)},
		{list(dep(0, at(1, 1)), dep(1)), numbers(2, 0, 1, 1, 1, 1, 0)},
		{list(dep(0, at(1, 1), at(api.MaxTime, 7)), dep(5), dep(7, at(4, 3))), numbers(3, 0, 2, 1, 1, api.MaxTime, 7, 5, 0, 7, 1, 4, 3)},
	}
	for _, c := range cases {
		if got := deps.Put(c.d); !bytes.Equal(got, c.want) {
			t.Errorf("Put(%v): %x, want %x", c.d, got, c.want)
		}
		wantParse(t, "laid by hand", c.want, c.d, api.OK)
	}
	if got := deps.Put(list(dep(1))); !bytes.Equal(got, []byte{1, 0, 0, 0, 0, 0, 0, 0, 1, 0, 0, 0, 0, 0, 0, 0, 0, 0, 0, 0, 0, 0, 0, 0}) {
		t.Errorf("Put: %x", got)
	}
}

// P6.5
func TestThereAndBack(t *testing.T) {
	for _, d := range good() {
		b := deps.Put(d)
		wantParse(t, "there and back", b, d, api.OK)
		if again, _ := deps.Parse(b); !bytes.Equal(deps.Put(again), b) {
			t.Errorf("back and there: %v", again)
		}
	}
}

// P6.5
func TestParseRefusesBytesThatEndTooEarlyOrTooLate(t *testing.T) {
	for _, d := range good() {
		b := deps.Put(d)
		for i := range min(len(b), 2000) {
			wantParse(t, "cut off", b[:i], nil, api.ErrDeps)
			wantParse(t, "cut off behind", b[:len(b)-1-i], nil, api.ErrDeps)
		}
		for _, more := range [][]byte{{0}, {1}, {255}, numbers(0), numbers(7, 0), b} {
			wantParse(t, "more behind", slices.Concat(b, more), nil, api.ErrDeps)
		}
		wantParse(t, "without the first byte", b[1:], nil, api.ErrDeps)
	}
	wantParse(t, "no bytes", nil, nil, api.ErrDeps)
	wantParse(t, "no bytes", []byte{}, nil, api.ErrDeps)
}

// P6.5: what is told of how much there is lies.
func TestParseRefusesCountsThatLie(t *testing.T) {
	for _, n := range []int64{-1, -8, 1, 2, 8, 9, 1 << 20, 1 << 32, 1 << 40, 1 << 60, math.MaxInt64, math.MinInt64} {
		wantParse(t, "so many Deps, and none", numbers(n), nil, api.ErrDeps)
		if n != 1 {
			wantParse(t, "so many Deps, and one", numbers(n, 0, 0), nil, api.ErrDeps)
			wantParse(t, "so many Ids, and one", numbers(1, 0, n, 1, 1), nil, api.ErrDeps)
		}
		if n != 2 {
			wantParse(t, "so many Deps, and two", numbers(n, 0, 0, 1, 0), nil, api.ErrDeps)
		}
		wantParse(t, "so many Ids, and none", numbers(1, 0, n), nil, api.ErrDeps)
		wantParse(t, "so many Ids in the second one, and none", numbers(2, 0, 0, 1, n), nil, api.ErrDeps)
	}
	wantParse(t, "fewer Deps than there are", numbers(1, 0, 0, 1, 0), nil, api.ErrDeps)
	wantParse(t, "fewer Ids than there are", numbers(1, 0, 1, 1, 1, 2, 1), nil, api.ErrDeps)
	wantParse(t, "no Deps, and one", numbers(0, 0, 0), nil, api.ErrDeps)
}

// P6.5: too many is ErrDeps here too.
func TestParseRefusesWhatAreNoDependencies(t *testing.T) {
	for _, d := range wrong() {
		if deps.Check(d) == api.OK {
			t.Errorf("Check(%v): OK", d)
		}
		wantParse(t, "wrong ones", deps.Put(d), nil, api.ErrDeps)
	}
	wantParse(t, "a shard below 0", numbers(1, -1, 0), nil, api.ErrDeps)
	wantParse(t, "a shard of MaxShards", numbers(1, api.MaxShards, 0), nil, api.ErrDeps)
	wantParse(t, "a shard of which the low bytes alone may be", numbers(1, 1<<32, 0), nil, api.ErrDeps)
	wantParse(t, "a node of which the low bytes alone may be", numbers(1, 0, 1, 1, 1<<32+1), nil, api.ErrDeps)
}

// P6.5: of any bytes, what is read is what these bytes are; all else is refused.
func TestParseOfSpoiltBytes(t *testing.T) {
	for _, d := range [][]api.Dep{nil, list(dep(3, at(1, 1))), three(), full(1)} {
		b := deps.Put(d)
		for i := range b {
			for turn := range 256 {
				spoilt := bytes.Clone(b)
				spoilt[i] ^= byte(turn)
				got, err := deps.Parse(spoilt)
				if err == api.OK && (deps.Check(got) != api.OK || !bytes.Equal(deps.Put(got), spoilt)) {
					t.Fatalf("Parse(%x): %v", spoilt, got)
				}
				if err != api.OK && (err != api.ErrDeps || len(got) != 0) {
					t.Fatalf("Parse(%x): %v, %d", spoilt, got, err)
				}
			}
		}
	}
}
