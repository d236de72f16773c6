// Package stamp is layer 1: times at nodes, which are in one order, and never the same one twice.
package stamp

import (
	"cmp"
	"slices"

	"folkmoot/api"
)

// Check tells whether a stamp may be; the zero Stamp may not.
func Check(s api.Stamp) api.Errno {
	if s.Time < 1 || s.Time > api.MaxTime || !isNode(s.Node) {
		return api.ErrStamp
	}
	return api.OK
}

func isNode(n int) bool { return n >= 1 && n <= api.MaxNode }

// Compare is -1, 0 or 1: by Time, then by Node.
func Compare(a, b api.Stamp) int {
	return cmp.Or(cmp.Compare(a.Time, b.Time), cmp.Compare(a.Node, b.Node))
}

// Max is the greatest one; the zero Stamp, if there is none.
func Max(l ...api.Stamp) api.Stamp {
	if len(l) == 0 {
		return api.Stamp{}
	}
	return slices.MaxFunc(l, Compare)
}

// After is the least stamp of the node with a Time above all Times of l, of which each is a stamp or zero.
func After(node int, l ...api.Stamp) (api.Stamp, api.Errno) {
	if !isNode(node) {
		return api.Stamp{}, api.ErrArg
	}
	for _, s := range l {
		if s != (api.Stamp{}) && Check(s) != api.OK {
			return api.Stamp{}, api.ErrStamp
		}
	}
	return next(node, Max(l...).Time)
}

// next is the node's stamp one time behind last, which is 0 to MaxTime.
func next(node int, last int64) (api.Stamp, api.Errno) {
	if last >= api.MaxTime {
		return api.Stamp{}, api.ErrOver
	}
	return api.Stamp{Time: last + 1, Node: node}, api.OK
}

// Sort is the rising list of these, each once.
func Sort(l ...api.Stamp) []api.Stamp {
	list := append([]api.Stamp(nil), l...)
	slices.SortFunc(list, Compare)
	return slices.Compact(list)
}

// Has tells whether s is in the list.
func Has(l []api.Stamp, s api.Stamp) bool {
	for _, x := range l {
		if x == s {
			return true
		}
	}
	return false
}

// Merge is the list of all that are in one of the lists.
func Merge(l ...[]api.Stamp) []api.Stamp {
	if len(l) == 0 {
		return nil
	}
	// Cut off the first list's spare room: it is the caller's, and is not to be added to.
	all := l[0][:len(l[0]):len(l[0])]
	for _, list := range l[1:] {
		all = append(all, list...)
	}
	return Sort(all...)
}

// Below is those of the list that are less than s.
func Below(l []api.Stamp, s api.Stamp) []api.Stamp {
	var below []api.Stamp
	for _, x := range l {
		if Compare(x, s) < 0 {
			below = append(below, x)
		}
	}
	return below
}
