package topo

import "folkmoot/api"

// crew tells of each node whether it is one of some; at the place 0 there is none.
type crew [api.MaxNode + 1]bool

// crewOf is the nodes of the shards at these places; places that are none have no part.
func crewOf(l []api.Shard, shards ...int) crew {
	var c crew
	for _, i := range shards {
		if i >= 0 && i < len(l) {
			c.add(l[i].Nodes...)
		}
	}
	return c
}

// add takes up nodes; those that may not be have no part.
func (c *crew) add(nodes ...int) {
	for _, n := range nodes {
		if isNode(n) {
			c[n] = true
		}
	}
}

// has tells whether the node is one of them.
func (c *crew) has(node int) bool { return isNode(node) && c[node] }

// rising is the nodes, rising.
func (c *crew) rising() []int {
	var nodes []int
	for n, is := range c {
		if is {
			nodes = append(nodes, n)
		}
	}
	return nodes
}

func isNode(n int) bool { return n >= 1 && n <= api.MaxNode }

// areRising tells whether each of the numbers is a node's, and above the one ahead of it.
func areRising(nodes []int) bool {
	for i, n := range nodes {
		if !isNode(n) || i > 0 && n <= nodes[i-1] {
			return false
		}
	}
	return true
}
