package ready

import (
	"slices"

	"folkmoot/api"
	"folkmoot/cmd"
	"folkmoot/deps"
	"folkmoot/stamp"
	"folkmoot/topo"
)

// view is what a node looks at to tell what blocks one of its commands.
type view struct {
	cmds   []api.Cmd
	places map[api.Stamp]int // where in cmds an Id's command lies
	over   []api.Stamp
	shards []int // those that have the node
}

func viewOf(l []api.Cmd, over []api.Stamp, t []api.Shard, node int) view {
	v := view{l, make(map[api.Stamp]int, len(l)), over, topo.Of(t, node)}
	for i, c := range l {
		v.places[c.Id] = i
	}
	return v
}

// find is an Id's command; if there is none, the zero one, of which as little is decided.
func (v view) find(id api.Stamp) api.Cmd {
	if i, there := v.places[id]; there {
		return v.cmds[i]
	}
	return api.Cmd{}
}

// replace lays a command where the one of its Id lies, in the list itself.
func (v view) replace(c api.Cmd) { v.cmds[v.places[c.Id]] = c }

// blockers is the Ids, rising, for whose end c has to wait.
func (v view) blockers(c api.Cmd) []api.Stamp {
	ids := deps.All(deps.Only(c.Value.Deps, v.shards...))
	return slices.DeleteFunc(ids, func(id api.Stamp) bool { return id == c.Id || !v.blocks(id, c) || stamp.Has(v.over, id) })
}

// blocks tells whether the command of an Id is to be executed ahead of c, as far as is known, or may have to be.
func (v view) blocks(id api.Stamp, c api.Cmd) bool {
	other := v.find(id)
	if !isDecided(other) {
		return true
	}
	return !cmd.Final(other) && stamp.Compare(other.Value.At, c.Value.At) < 0
}

func isDecided(c api.Cmd) bool { return c.Phase == api.PhaseDecided || c.Phase == api.PhaseApplied }
