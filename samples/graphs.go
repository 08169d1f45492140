// Package samples holds graphs and matchings on which the tests of the layers try them, by definitions that lean on no layer.
package samples

import (
	"slices"

	"garland/api"
)

// Made is the graph of n vertices and the edges 0 1, 2 3, if 0, 1, 2, 3 are the ends; either end may come first, and any edge.
func Made(n int, ends ...int) api.Graph {
	g := api.Graph{N: n}
	for i := 0; i+1 < len(ends); i += 2 {
		g.Edges = append(g.Edges, api.Edge{A: min(ends[i], ends[i+1]), B: max(ends[i], ends[i+1])})
	}
	slices.SortFunc(g.Edges, func(e, f api.Edge) int {
		if e.A != f.A {
			return e.A - f.A
		}
		return e.B - f.B
	})
	return g
}

// rowEnds is 0 1, 1 2, and so on to n - 1.
func rowEnds(n int) []int {
	var ends []int
	for v := range n - 1 {
		ends = append(ends, v, v+1)
	}
	return ends
}

// Row joins each of n vertices with the next one.
func Row(n int) api.Graph { return Made(n, rowEnds(n)...) }

// Ring is a row whose last vertex is joined with 0.
func Ring(n int) api.Graph { return Made(n, append(rowEnds(n), 0, n-1)...) }

// Star joins 0 with each other one of n vertices.
func Star(n int) api.Graph {
	var ends []int
	for v := 1; v < n; v++ {
		ends = append(ends, 0, v)
	}
	return Made(n, ends...)
}

// Whole joins all of n vertices, by no more edges than may be.
func Whole(n int) api.Graph {
	g := api.Graph{N: n}
	for a := range n {
		for b := a + 1; b < n && len(g.Edges) < api.MaxEdges; b++ {
			g.Edges = append(g.Edges, api.Edge{A: a, B: b})
		}
	}
	return g
}

// WholeSides joins each of a vertices with each of the b behind them.
func WholeSides(a, b int) api.Graph {
	g := api.Graph{N: a + b}
	for v := range a {
		for w := a; w < a+b; w++ {
			g.Edges = append(g.Edges, api.Edge{A: v, B: w})
		}
	}
	return g
}

// Petersen has ten vertices, with three neighbours each, and no ring of fewer than five.
func Petersen() api.Graph {
	var ends []int
	for v := range 5 {
		ends = append(ends, v, (v+1)%5, v, v+5, v+5, (v+2)%5+5)
	}
	return Made(10, ends...)
}

// Fours is rows of four, of which greedy.First takes the midst of each: the midst of the k-th
// is k and k + rows, and its ends are k + 2 rows and k + 3 rows.
func Fours(rows int) api.Graph {
	var ends []int
	for k := range rows {
		ends = append(ends, k, k+rows, k, k+2*rows, k+rows, k+3*rows)
	}
	return Made(4*rows, ends...)
}

// MostOfBoth is a graph of as many vertices and edges as may be: the row of all vertices, and edges of the first ones.
func MostOfBoth() api.Graph {
	g := api.Graph{N: api.MaxVertices}
	left := api.MaxEdges - (api.MaxVertices - 1)
	for a := range g.N - 1 {
		g.Edges = append(g.Edges, api.Edge{A: a, B: a + 1})
		for b := a + 2; b < g.N && left > 0; b++ {
			g.Edges = append(g.Edges, api.Edge{A: a, B: b})
			left--
		}
	}
	return g
}

// Scattered is a graph of n vertices that hangs on the seed, of at most m edges.
func Scattered(seed uint32, n, m int) api.Graph {
	next := func() int {
		seed = seed*1664525 + 1013904223
		return int(seed>>8) % n
	}
	chosen := map[api.Edge]struct{}{}
	var ends []int
	for range m {
		a, b := next(), next()
		e := api.Edge{A: min(a, b), B: max(a, b)}
		if _, there := chosen[e]; a != b && !there {
			chosen[e] = struct{}{}
			ends = append(ends, a, b)
		}
	}
	return Made(n, ends...)
}

// EachGraph calls look with every graph of n vertices.
func EachGraph(n int, look func(g api.Graph)) {
	edges := Whole(n).Edges
	for mask := range 1 << len(edges) {
		g := api.Graph{N: n}
		for i, e := range edges {
			if mask>>i&1 == 1 {
				g.Edges = append(g.Edges, e)
			}
		}
		look(g)
	}
}

// Near is the neighbours of each vertex.
func Near(g api.Graph) [][]int {
	near := make([][]int, g.N)
	for _, e := range g.Edges {
		near[e.A] = append(near[e.A], e.B)
		near[e.B] = append(near[e.B], e.A)
	}
	return near
}
