package fit_test

import (
	"math"
	"strings"
	"testing"

	"folkmoot/api"
	"folkmoot/fit"
)

func at(time int64, node int) api.Stamp { return api.Stamp{Time: time, Node: node} }

func dep(shard int, ids ...api.Stamp) api.Dep { return api.Dep{Shard: shard, Ids: ids} }

// want asks of each whether it fits.
func want[T any](t *testing.T, name string, fits func(T) bool, want bool, l ...T) {
	t.Helper()
	for _, x := range l {
		if got := fits(x); got != want {
			t.Errorf("%s(%v): %v, want %v", name, x, got, want)
		}
	}
}

func TestNodes(t *testing.T) {
	want(t, "Node", fit.Node, true, 1, 2, 6, api.MaxNode)
	want(t, "Node", fit.Node, false, 0, -1, api.MaxNode+1, math.MaxInt, math.MinInt, 1<<32+1)
}

func TestStampsAndBallots(t *testing.T) {
	right := []api.Stamp{at(1, 1), at(api.MaxTime, api.MaxNode), at(5, 2)}
	wrong := []api.Stamp{at(0, 1), at(1, 0), at(-1, 1), at(1, -1), at(1, 8), at(api.MaxTime+1, 1), at(math.MinInt64, math.MinInt)}
	want(t, "Stamp", fit.Stamp, true, right...)
	want(t, "Stamp", fit.Stamp, false, append(wrong, api.Stamp{})...)
	want(t, "Ballot", fit.Ballot, true, append(right, api.Stamp{})...)
	want(t, "Ballot", fit.Ballot, false, wrong...)
}

func TestTimes(t *testing.T) {
	isTime := func(s api.Stamp) bool { return fit.Time(s, at(5, 2)) }
	want(t, "Time", isTime, true, at(5, 2), at(5, 3), at(6, 1), at(api.MaxTime, api.MaxNode))
	want(t, "Time", isTime, false, api.Stamp{}, at(5, 1), at(4, 7), at(1, 1), at(9, 0), at(9, 8), at(api.MaxTime+1, 1))
}

func TestDeps(t *testing.T) {
	ids := make([]api.Stamp, api.MaxDeps+1)
	for i := range ids {
		ids[i] = at(int64(i+1), 1)
	}
	want(t, "Deps", fit.Deps, true, nil, []api.Dep{}, []api.Dep{dep(0, at(1, 1)), dep(7)}, []api.Dep{dep(3, ids[:api.MaxDeps]...)})
	want(t, "Deps", fit.Deps, false, []api.Dep{dep(8)}, []api.Dep{dep(1), dep(0)}, []api.Dep{dep(3, ids...)}, []api.Dep{dep(0, api.Stamp{})})
}

func TestValues(t *testing.T) {
	right := []api.Value{
		{Gone: true}, {Gone: true, Deps: []api.Dep{}}, {At: at(1, 1)}, {At: at(1, 1), Deps: []api.Dep{}}, {At: at(5, 2), Deps: []api.Dep{dep(0, at(9, 1)), dep(1)}},
	}
	wrong := []api.Value{
		{Gone: true, At: at(1, 1)}, {Gone: true, Deps: []api.Dep{dep(0)}}, {Deps: []api.Dep{dep(0)}}, {At: at(1, 0)}, {At: at(0, 1)},
		{At: at(1, 1), Deps: []api.Dep{dep(8)}}, {At: at(1, 1), Deps: []api.Dep{dep(0, at(2, 1), at(1, 1))}},
	}
	zero := []api.Value{{}, {Deps: []api.Dep{}}}
	want(t, "Value", fit.Value, true, right...)
	want(t, "Value", fit.Value, false, append(wrong, zero...)...)
	want(t, "NoValue", fit.NoValue, true, zero...)
	want(t, "NoValue", fit.NoValue, false, append(wrong, right...)...)
}

func TestWritesAndData(t *testing.T) {
	const notANumber = 0x7ff8000000000002
	key := strings.Repeat("k", api.MaxKey)
	want(t, "Writes", fit.Writes, true, nil, []api.Write{}, []api.Write{{Key: "a", Num: 5}, {Key: "b", Gone: true}, {Key: key}})
	want(t, "Writes", fit.Writes, false, []api.Write{{}}, []api.Write{{Key: "a", Num: 1, Gone: true}}, []api.Write{{Key: key + "k"}},
		[]api.Write{{Key: "b"}, {Key: "a"}}, []api.Write{{Key: "a"}, {Key: "a"}}, []api.Write{{Key: "a", Num: notANumber}})
	want(t, "Data", fit.Data, true, nil, []api.Pair{}, []api.Pair{{Key: "a", Num: 5}, {Key: "b"}, {Key: key}})
	want(t, "Data", fit.Data, false, []api.Pair{{}}, []api.Pair{{Key: key + "k"}}, []api.Pair{{Key: "b"}, {Key: "a"}},
		[]api.Pair{{Key: "a"}, {Key: "a"}}, []api.Pair{{Key: "a", Num: notANumber}})
}
