package txn_test

import (
	"bytes"
	"math"
	"slices"
	"strings"
	"testing"

	"folkmoot/api"
	"folkmoot/num"
	"folkmoot/span"
	"folkmoot/txn"
)

// dice answers numbers from 0 on and below n, the same ones in every run.
func dice(seed uint64) func(n int) int {
	return func(n int) int {
		seed = seed*6364136223846793005 + 1442695040888963407
		return int(seed >> 33 % uint64(n))
	}
}

// keys is the keys of which anything is made, rising; some have nothing between them.
func keys() []string {
	return []string{"\x00", "a", "a\x00", "aa", "b", "m", strings.Repeat("m", api.MaxKey), "\xff"}
}

// nums is the nums of which anything is made.
func nums() []api.Num {
	return []api.Num{0, 0, n1, n1, n2, n3, n5, num.Of(-1), num.Of(-5), minusZero, least, greatest, inf, minusInf, nan}
}

func anyNum(dice func(int) int) api.Num { return nums()[dice(len(nums()))] }

func anyOp(dice func(int) int) api.Op {
	i, j := dice(len(keys())), dice(len(keys())-1)
	if j >= i {
		j++
	}
	key, other := keys()[i], keys()[j]
	switch 1 + dice(6) {
	case api.OpGet:
		return get(key)
	case api.OpPut:
		return put(key, anyNum(dice))
	case api.OpAdd:
		return add(key, anyNum(dice))
	case api.OpDrop:
		return drop(key)
	case api.OpMove:
		return move(key, other, anyNum(dice))
	}
	if dice(3) == 0 {
		return scan(key, "")
	}
	return scan(min(key, other), max(key, other))
}

func anyOps(dice func(int) int, most int) []api.Op {
	var l []api.Op
	for range 1 + dice(most) {
		l = append(l, anyOp(dice))
	}
	return l
}

// shelf is data told otherwise: of each of the keys, whether it is there, and its num.
type shelf map[string]struct {
	there bool
	x     float64
}

func anyShelf(dice func(int) int) shelf {
	s := shelf{}
	for _, key := range keys() {
		if dice(2) == 0 {
			s.lay(key, float(anyNum(dice)))
		}
	}
	return s
}

func (s shelf) lay(key string, x float64) {
	place := s[key]
	place.there, place.x = true, x
	s[key] = place
}

func float(n api.Num) float64 { return math.Float64frombits(uint64(n)) }

// bits is a float's bits; of what is no number always the same ones.
func bits(x float64) api.Num {
	if x != x {
		return nan
	}
	return api.Num(math.Float64bits(x))
}

// told is the data of a shelf, of the keys for which in is true.
func (s shelf) told(in func(key string) bool) []api.Pair {
	var l []api.Pair
	for _, key := range keys() {
		if s[key].there && in(key) {
			l = append(l, pair(key, bits(s[key].x)))
		}
	}
	return l
}

func (s shelf) all() []api.Pair { return s.told(func(string) bool { return true }) }

// do does an op, and answers what it answers, and which keys it writes.
func (s shelf) do(op api.Op) (api.Answer, []string) {
	old, x := s[op.Key], float(op.Num)
	switch op.Kind {
	case api.OpGet:
		return api.Answer{Yes: old.there, Num: bits(old.x)}, nil
	case api.OpScan:
		return found(s.told(func(key string) bool { return reads(op, key) })...), nil
	case api.OpPut:
		s.lay(op.Key, x)
		return yes(0), []string{op.Key}
	case api.OpAdd:
		s.lay(op.Key, old.x+x)
		return api.Answer{Yes: old.there, Num: bits(old.x + x)}, []string{op.Key}
	case api.OpDrop:
		delete(s, op.Key)
		return api.Answer{Yes: old.there}, []string{op.Key}
	}
	if !(old.x >= x && x >= 0) {
		return no(0), nil
	}
	s.lay(op.Key, old.x-x)
	s.lay(op.To, s[op.To].x+x)
	return yes(0), []string{op.Key, op.To}
}

// eval is what comes of ops, and how the shelf stands then.
func (s shelf) eval(l []api.Op) ([]api.Write, []api.Answer) {
	written := map[string]bool{}
	var told []api.Answer
	for _, op := range l {
		answer, keys := s.do(op)
		told = append(told, answer)
		for _, key := range keys {
			written[key] = true
		}
	}
	var done []api.Write
	for _, key := range keys() {
		if written[key] {
			done = append(done, api.Write{Key: key, Num: bits(s[key].x), Gone: !s[key].there})
		}
	}
	return done, told
}

// reads tells whether an op asks what is there of a key.
func reads(op api.Op, key string) bool {
	switch op.Kind {
	case api.OpPut:
		return false
	case api.OpScan:
		return key >= op.Key && (op.To == "" || key < op.To)
	case api.OpMove:
		return key == op.Key || key == op.To
	}
	return key == op.Key
}

// changes tells whether an op may change a key.
func changes(op api.Op, key string) bool {
	switch op.Kind {
	case api.OpGet, api.OpScan:
		return false
	case api.OpMove:
		return key == op.Key || key == op.To
	}
	return key == op.Key
}

func anyOf(l []api.Op, key string, does func(api.Op, string) bool) bool {
	return slices.ContainsFunc(l, func(op api.Op) bool { return does(op, key) })
}

// P8.1, P8.4, P8.5: any transactions, executed otherwise, and what they write, applied.
func TestEvalOfAnyTransaction(t *testing.T) {
	dice := dice(21)
	for range 30000 {
		l, s := anyOps(dice, api.MaxOps), anyShelf(dice)
		data := s.all()
		wantCheck(t, "any", l, api.OK)
		writes, answers := s.eval(l)
		wantEval(t, l, data, writes, answers...)
		wantData(t, "Apply of what it writes", txn.Apply(data, writes...), s.all()...)
	}
}

// P8.2, P8.3: any transactions, key by key.
func TestSetsOfAnyTransaction(t *testing.T) {
	dice := dice(22)
	for range 20000 {
		l := anyOps(dice, api.MaxOps)
		r, w, all := txn.Reads(l), txn.Writes(l), txn.All(l)
		for _, set := range [][]api.Span{r, w, all} {
			wantSpans(t, "a set", set, span.Union(set...))
		}
		for _, key := range append(keys(), "", "\x00\x00", "aa\x00", "ab", "b\x00", "c", "n", "\xff\x00", "\xff\xff") {
			read, written := anyOf(l, key, reads), anyOf(l, key, changes)
			if span.Has(r, key) != read || span.Has(w, key) != written || span.Has(all, key) != (read || written) {
				t.Fatalf("%q of %#v: read %t, written %t, but Reads %q, Writes %q, All %q", key, l, read, written, r, w, all)
			}
		}
	}
}

// P8.5: Pick of any set, and Apply of any writes, key by key.
func TestPickAndApplyOfAnyData(t *testing.T) {
	dice := dice(23)
	for range 20000 {
		s := anyShelf(dice)
		data, picked := s.all(), anyOps(dice, 3)
		set := txn.Reads(picked)
		wantData(t, "Pick", txn.Pick(data, set), s.told(func(key string) bool { return anyOf(picked, key, reads) })...)
		wantData(t, "Pick of all", txn.Pick(data, of("", "")), data...)
		var l []api.Write
		for range dice(10) {
			key := keys()[dice(len(keys()))]
			if dice(2) == 0 {
				l = append(l, gone(key))
				delete(s, key)
			} else {
				n := anyNum(dice)
				l = append(l, api.Write{Key: key, Num: n})
				s.lay(key, float(n))
			}
		}
		wantData(t, "Apply", txn.Apply(data, l...), s.all()...)
	}
}

// P8.6: any transactions there and back.
func TestBytesOfAnyTransaction(t *testing.T) {
	dice := dice(24)
	for range 3000 {
		l := anyOps(dice, api.MaxOps)
		b := txn.Put(l)
		wantParse(t, "any", b, l, api.OK)
		for range 20 {
			spoilt := bytes.Clone(b)
			spoilt[dice(len(b))] = byte(dice(256))
			if got, err := txn.Parse(spoilt[:len(b)-dice(2)]); err == api.OK && !bytes.Equal(txn.Put(got), spoilt) {
				t.Fatalf("Parse(%x): %#v", spoilt, got)
			}
		}
	}
}

// P8.7: what is read suffices, and nothing else is written.
func TestWhatIsReadSuffices(t *testing.T) {
	dice := dice(25)
	for range 30000 {
		l, data := anyOps(dice, api.MaxOps), anyShelf(dice).all()
		writes, answers := txn.Eval(l, data)
		wantEval(t, l, txn.Pick(data, txn.Reads(l)), writes, answers...)
		for _, w := range writes {
			if !span.Has(txn.Writes(l), w.Key) {
				t.Fatalf("%#v writes %q", l, w.Key)
			}
		}
	}
}

// inConflict tells whether one of the two changes a key that the other one reads or changes.
func inConflict(a, b []api.Op) bool {
	one := func(a, b []api.Op) bool {
		return slices.ContainsFunc(keys(), func(key string) bool {
			return anyOf(a, key, changes) && (anyOf(b, key, reads) || anyOf(b, key, changes))
		})
	}
	return one(a, b) || one(b, a)
}

// P8.3, P8.8: which conflict; and if two do not, it is the same which one comes first.
func TestTwoWithoutConflictInEitherOrder(t *testing.T) {
	dice, apart := dice(26), 0
	for range 40000 {
		a, b, data := anyOps(dice, 3), anyOps(dice, 3), anyShelf(dice).all()
		conflict := inConflict(a, b)
		wantConflict(t, a, b, conflict)
		if conflict {
			continue
		}
		apart++
		writesA, answersA := txn.Eval(a, data)
		writesB, answersB := txn.Eval(b, data)
		behindA, behindB := txn.Apply(data, writesA...), txn.Apply(data, writesB...)
		wantEval(t, a, behindB, writesA, answersA...)
		wantEval(t, b, behindA, writesB, answersB...)
		wantData(t, "a behind b", txn.Apply(behindB, writesA...), txn.Apply(behindA, writesB...)...)
	}
	if apart < 5000 || apart > 35000 {
		t.Errorf("only one kind of two: %d without conflict", apart)
	}
}
