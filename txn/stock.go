package txn

import (
	"cmp"
	"slices"

	"folkmoot/api"
	"folkmoot/num"
	"folkmoot/span"
)

// stock is what is there while ops are done.
type stock struct {
	nums    map[string]api.Num // of a key that is not there it has 0, which is the value of such a key
	written []string           // in the order in which it was done, a key once for each time
}

func stockOf(data []api.Pair) *stock {
	s := &stock{nums: map[string]api.Num{}}
	for _, p := range data {
		s.nums[p.Key] = p.Num
	}
	return s
}

func (s *stock) put(key string, n api.Num) {
	s.nums[key] = n
	s.written = append(s.written, key)
}

func (s *stock) drop(key string) {
	delete(s.nums, key)
	s.written = append(s.written, key)
}

// add adds to the value of a key, and tells what it is then.
func (s *stock) add(key string, n api.Num) api.Num {
	sum := num.Add(s.nums[key], n)
	s.put(key, sum)
	return sum
}

// within is the pairs that are there, with keys in a span, by rising keys.
func (s *stock) within(keys api.Span) []api.Pair {
	set := []api.Span{keys}
	var l []api.Pair
	for key, n := range s.nums {
		if span.Has(set, key) {
			l = append(l, api.Pair{Key: key, Num: n})
		}
	}
	slices.SortFunc(l, func(a, b api.Pair) int { return cmp.Compare(a.Key, b.Key) })
	return l
}

// writes is what has become of each key that was written, by rising keys.
func (s *stock) writes() []api.Write {
	keys := slices.Clone(s.written)
	slices.Sort(keys)
	var l []api.Write
	for _, key := range slices.Compact(keys) {
		n, there := s.nums[key]
		l = append(l, api.Write{Key: key, Num: n, Gone: !there})
	}
	return l
}
