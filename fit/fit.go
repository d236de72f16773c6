// Package fit tells whether what several layers are given alike may be: nodes, times, ballots, values, writes, data.
package fit

import (
	"folkmoot/api"
	"folkmoot/deps"
	"folkmoot/num"
	"folkmoot/span"
	"folkmoot/stamp"
)

// Node tells whether a node may have that number.
func Node(n int) bool { return n >= 1 && n <= api.MaxNode }

// Stamp tells whether it is a stamp; the zero one is none.
func Stamp(s api.Stamp) bool { return stamp.Check(s) == api.OK }

// Ballot tells whether it is a ballot: the zero Stamp, which is the first one, or a stamp.
func Ballot(s api.Stamp) bool { return s == api.Stamp{} || Stamp(s) }

// Time tells whether the transaction with that Id may be executed then.
func Time(s, id api.Stamp) bool { return Stamp(s) && stamp.Compare(s, id) >= 0 }

// Deps tells whether they are dependencies, and not too many.
func Deps(d []api.Dep) bool { return deps.Check(d) == api.OK }

// Value tells whether it is a value: that it is gone, and nothing besides, or when it is executed, and behind which others.
func Value(v api.Value) bool {
	if v.Gone {
		return v.At == api.Stamp{} && len(v.Deps) == 0
	}
	return Stamp(v.At) && Deps(v.Deps)
}

// NoValue tells whether it is the zero Value.
func NoValue(v api.Value) bool { return !v.Gone && v.At == api.Stamp{} && len(v.Deps) == 0 }

// Writes tells whether it is a list of writes: by rising Key, each once.
func Writes(l []api.Write) bool {
	for i, w := range l {
		if !isPair(w.Key, w.Num) || w.Gone && w.Num != 0 || i > 0 && w.Key <= l[i-1].Key {
			return false
		}
	}
	return true
}

// Data tells whether these are data: by rising Key, each once.
func Data(l []api.Pair) bool {
	for i, p := range l {
		if !isPair(p.Key, p.Num) || i > 0 && p.Key <= l[i-1].Key {
			return false
		}
	}
	return true
}

func isPair(key string, n api.Num) bool { return span.Key(key) == api.OK && num.Check(n) == api.OK }
