package txn

import (
	"folkmoot/api"
	"folkmoot/num"
	"folkmoot/span"
)

// Eval is what the ops write, and what each of them answers, when they are done one behind the other upon data.
func Eval(l []api.Op, data []api.Pair) ([]api.Write, []api.Answer) {
	s := stockOf(data)
	var answers []api.Answer
	for _, op := range l {
		answers = append(answers, do(s, op))
	}
	return s.writes(), answers
}

// Pick is the pairs whose keys are in the set.
func Pick(data []api.Pair, set []api.Span) []api.Pair {
	var picked []api.Pair
	for _, p := range data {
		if span.Has(set, p.Key) {
			picked = append(picked, p)
		}
	}
	return picked
}

// Apply is the data, when the writes are done, one behind the other.
func Apply(data []api.Pair, l ...api.Write) []api.Pair {
	s := stockOf(data)
	for _, w := range l {
		if w.Gone {
			s.drop(w.Key)
		} else {
			s.put(w.Key, w.Num)
		}
	}
	return s.within(api.Span{})
}

// do does an op, and tells what it answers.
func do(s *stock, op api.Op) api.Answer {
	n, there := s.nums[op.Key]
	switch op.Kind {
	case api.OpGet:
		return api.Answer{Yes: there, Num: n}
	case api.OpScan:
		return api.Answer{Yes: true, Pairs: s.within(between(op))}
	case api.OpPut:
		s.put(op.Key, op.Num)
		return api.Answer{Yes: true}
	case api.OpAdd:
		return api.Answer{Yes: there, Num: s.add(op.Key, op.Num)}
	case api.OpDrop:
		s.drop(op.Key)
		return api.Answer{Yes: there}
	case api.OpMove:
		return api.Answer{Yes: move(s, op)}
	}
	return api.Answer{}
}

// move takes from one key and gives to another one, if there is enough; and tells whether there was.
func move(s *stock, op api.Op) bool {
	if !num.Covers(s.nums[op.Key], op.Num) || !num.Covers(op.Num, num.Of(0)) {
		return false
	}
	s.add(op.Key, num.Neg(op.Num))
	s.add(op.To, op.Num)
	return true
}
