package neighbours_test

import (
	"math"
	"slices"
	"testing"

	"garland/api"
	"garland/graph"
	"garland/neighbours"
)

func graphOf(n int, ends ...int) api.Graph {
	g := api.Graph{N: n}
	for i := 0; i+1 < len(ends); i += 2 {
		g.Edges = append(g.Edges, api.Edge{A: ends[i], B: ends[i+1]})
	}
	return g
}

func sameLists(a, b [][]int) bool { return slices.EqualFunc(a, b, slices.Equal[[]int]) }

func TestOf(t *testing.T) {
	for _, c := range []struct {
		what string
		g    api.Graph
		want [][]int
	}{
		{"no vertices", api.Graph{}, nil},
		{"no edges", graphOf(3), [][]int{nil, nil, nil}},
		{"one edge", graphOf(3, 0, 2), [][]int{{2}, nil, {0}}},
		{"below and above", graphOf(5, 0, 2, 1, 2, 1, 4, 2, 3, 2, 4), [][]int{{2}, {2, 4}, {0, 1, 3, 4}, {2}, {1, 2}}},
	} {
		if got := neighbours.Of(c.g); !sameLists(got, c.want) {
			t.Errorf("%s: %v, want %v", c.what, got, c.want)
		}
	}
}

func TestOfAllSmallGraphs(t *testing.T) {
	for n := range 6 {
		var edges []api.Edge
		for a := range n {
			for b := a + 1; b < n; b++ {
				edges = append(edges, api.Edge{A: a, B: b})
			}
		}
		for mask := range 1 << len(edges) {
			g := api.Graph{N: n}
			for i, e := range edges {
				if mask>>i&1 == 1 {
					g.Edges = append(g.Edges, e)
				}
			}
			got := neighbours.Of(g)
			if len(got) != n {
				t.Fatalf("of %v: %v", g, got)
			}
			for v, near := range got {
				if !slices.Equal(near, graph.Near(g, v)) {
					t.Fatalf("of %v: %v", g, got)
				}
			}
		}
	}
}

func TestOfAWrongGraph(t *testing.T) {
	for _, g := range []api.Graph{
		{N: -1}, {N: math.MinInt}, {N: api.MaxVertices + 1}, {N: math.MaxInt},
		graphOf(3, 1, 1), graphOf(3, 2, 1), graphOf(3, 1, 3), graphOf(3, -1, 1), graphOf(3, 1, 2, 0, 1), graphOf(3, 0, 1, 0, 1),
	} {
		if got := neighbours.Of(g); len(got) != 0 {
			t.Errorf("of %d vertices, %v: %d lists", g.N, g.Edges, len(got))
		}
	}
}

func TestWhatIsToldIsNew(t *testing.T) {
	g := graphOf(4, 0, 1, 0, 2, 0, 3, 1, 3)
	want := neighbours.Of(g)
	got := neighbours.Of(g)
	for v := range got {
		near := got[v][:cap(got[v])]
		for i := range near {
			near[i] = -7
		}
		got[v] = nil
	}
	if again := neighbours.Of(g); !sameLists(again, want) {
		t.Errorf("an answer written into, then %v, want %v", again, want)
	}
	for v := range want {
		next := neighbours.Of(g)
		_ = append(next[v], -7)
		if !sameLists(next, want) {
			t.Errorf("the list of %d made longer, then %v, want %v", v, next, want)
		}
	}
}
