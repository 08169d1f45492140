// Package neighbours lays out the neighbours of all vertices of a graph at once, for layers that ask them again and again.
package neighbours

import (
	"garland/api"
	"garland/graph"
)

// Of tells the neighbours of each vertex of g, rising; nothing of a g that is not right.
func Of(g api.Graph) [][]int {
	if !graph.Right(g) {
		return nil
	}
	lists := make([][]int, g.N)
	// The edges rise: to a vertex those come first that end at it, and then those that begin at it; so its list rises as it grows.
	for _, e := range g.Edges {
		lists[e.A] = append(lists[e.A], e.B)
		lists[e.B] = append(lists[e.B], e.A)
	}
	return lists
}
