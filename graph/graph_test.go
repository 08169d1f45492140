package graph_test

import (
	"math"
	"slices"
	"testing"

	"garland/api"
	"garland/graph"
)

// edgesOf: 0, 1, 2, 3 are the edges 0 1 and 2 3.
func edgesOf(ends ...int) []api.Edge {
	var l []api.Edge
	for i := 0; i+1 < len(ends); i += 2 {
		l = append(l, api.Edge{A: ends[i], B: ends[i+1]})
	}
	return l
}

func graphOf(n int, ends ...int) api.Graph { return api.Graph{N: n, Edges: edgesOf(ends...)} }

// full is the first count edges of the whole graph of n vertices, rising.
func full(n, count int) []api.Edge {
	l := make([]api.Edge, 0, count)
	for a := 0; a < n; a++ {
		for b := a + 1; b < n && len(l) < count; b++ {
			l = append(l, api.Edge{A: a, B: b})
		}
	}
	return l
}

func same(g, h api.Graph) bool { return g.N == h.N && slices.Equal(g.Edges, h.Edges) }

func wantGraph(t *testing.T, what string, g api.Graph, err api.Errno, want api.Graph) {
	t.Helper()
	if err != api.OK || !same(g, want) {
		t.Errorf("%s: %v, error %d, want %v", what, g, err, want)
	}
}

func wantRefused(t *testing.T, what string, g api.Graph, err, want api.Errno) {
	t.Helper()
	if err != want || g.N != 0 || len(g.Edges) != 0 {
		t.Errorf("%s: %d vertices, %d edges, error %d, want error %d and nothing else", what, g.N, len(g.Edges), err, want)
	}
}

// wrongGraphs are graphs that are not right, by what is wrong with them. Most list
// the edge 0 1 too, so that a call that does not look whether they are right finds it.
func wrongGraphs() map[string]api.Graph {
	return map[string]api.Graph{
		"fewer than no vertices":       {N: -1},
		"far fewer than no vertices":   {N: math.MinInt, Edges: edgesOf(0, 1)},
		"a vertex too many":            {N: api.MaxVertices + 1, Edges: edgesOf(0, 1)},
		"far too many vertices":        {N: math.MaxInt, Edges: edgesOf(0, 1)},
		"an edge too many":             {N: 400, Edges: full(400, api.MaxEdges+1)},
		"a turned edge":                graphOf(4, 0, 1, 3, 2),
		"a turned edge first":          graphOf(4, 1, 0),
		"a loop":                       graphOf(4, 0, 1, 1, 1),
		"a loop of 0 first":            graphOf(4, 0, 0, 0, 1),
		"an end beyond":                graphOf(4, 0, 1, 2, 4),
		"an end far beyond":            graphOf(4, 0, 1, 2, math.MaxInt),
		"both ends beyond":             graphOf(4, 0, 1, 5, 6),
		"an end below 0":               graphOf(4, -1, 2, 0, 1),
		"an end far below 0":           graphOf(4, math.MinInt, 2, 0, 1),
		"both ends below 0":            graphOf(4, -3, -2, 0, 1),
		"an edge of no vertices":       graphOf(0, 0, 1),
		"an edge of one vertex":        graphOf(1, 0, 1),
		"edges that fall by A":         graphOf(4, 1, 2, 0, 1),
		"edges that fall by B":         graphOf(4, 0, 2, 0, 1),
		"edges that fall at the end":   graphOf(5, 0, 1, 0, 2, 3, 4, 2, 4),
		"edges that fall by A, not B":  graphOf(5, 0, 1, 2, 3, 1, 4),
		"an edge twice":                graphOf(4, 0, 1, 0, 1),
		"an edge twice at the end":     graphOf(4, 0, 1, 2, 3, 2, 3),
		"an edge twice, not in a row":  graphOf(4, 0, 1, 1, 2, 0, 1),
		"no vertices, a loop of below": graphOf(0, -1, -1),
	}
}

// P2.1

func TestRight(t *testing.T) {
	for what, g := range map[string]api.Graph{
		"the zero value":              {},
		"no vertices":                 {N: 0, Edges: []api.Edge{}},
		"one vertex":                  {N: 1},
		"as many as may be, no edges": {N: api.MaxVertices},
		"the least edge":              graphOf(2, 0, 1),
		"the edge of the last":        graphOf(api.MaxVertices, 0, 1, api.MaxVertices-2, api.MaxVertices-1),
		"rising by A, B falls":        graphOf(5, 0, 4, 1, 3, 2, 3),
		"rising by B":                 graphOf(4, 0, 1, 0, 2, 0, 3),
		"a triangle":                  graphOf(3, 0, 1, 0, 2, 1, 2),
		"as many edges as may be":     {N: 400, Edges: full(400, api.MaxEdges)},
	} {
		if !graph.Right(g) {
			t.Errorf("%s: not right", what)
		}
	}
	for what, g := range wrongGraphs() {
		if graph.Right(g) {
			t.Errorf("%s: right", what)
		}
	}
}

func TestMake(t *testing.T) {
	for _, c := range []struct {
		n    int
		l    []api.Edge
		want api.Graph
	}{
		{0, nil, api.Graph{}},
		{0, []api.Edge{}, api.Graph{}},
		{1, nil, api.Graph{N: 1}},
		{api.MaxVertices, nil, api.Graph{N: api.MaxVertices}},
		{3, edgesOf(2, 0), graphOf(3, 0, 2)},
		{3, edgesOf(0, 2), graphOf(3, 0, 2)},
		{4, edgesOf(3, 0, 2, 1, 1, 0), graphOf(4, 0, 1, 0, 3, 1, 2)},
		{4, edgesOf(2, 3, 1, 3, 0, 3, 1, 2, 0, 2, 0, 1), graphOf(4, 0, 1, 0, 2, 0, 3, 1, 2, 1, 3, 2, 3)},
		{api.MaxVertices, edgesOf(api.MaxVertices-1, 0, 4095, 4094), graphOf(api.MaxVertices, 0, 4095, 4094, 4095)},
	} {
		g, err := graph.Make(c.n, c.l)
		wantGraph(t, "Make", g, err, c.want)
		if !graph.Right(g) {
			t.Errorf("Make(%d, %v): not right", c.n, c.l)
		}
	}
}

func TestMakeRefuses(t *testing.T) {
	for _, c := range []struct {
		what string
		n    int
		l    []api.Edge
		want api.Errno
	}{
		{"fewer than no vertices", -1, nil, api.ErrLimit},
		{"far fewer than no vertices", math.MinInt, nil, api.ErrLimit},
		{"a vertex too many", api.MaxVertices + 1, nil, api.ErrLimit},
		{"far too many vertices", math.MaxInt, edgesOf(0, 1), api.ErrLimit},
		{"a vertex too many ahead of a loop", api.MaxVertices + 1, edgesOf(1, 1), api.ErrLimit},
		{"fewer than no vertices ahead of an end beyond", -1, edgesOf(0, 1), api.ErrLimit},
		{"an end beyond", 3, edgesOf(0, 3), api.ErrVertex},
		{"an end beyond, first", 3, edgesOf(3, 0), api.ErrVertex},
		{"an end far beyond", 3, edgesOf(0, math.MaxInt), api.ErrVertex},
		{"an end below 0", 3, edgesOf(-1, 0), api.ErrVertex},
		{"an end below 0, last", 3, edgesOf(0, -1), api.ErrVertex},
		{"an end far below 0", 3, edgesOf(2, math.MinInt), api.ErrVertex},
		{"an edge of no vertices", 0, edgesOf(0, 1), api.ErrVertex},
		{"an end beyond the most", api.MaxVertices, edgesOf(0, api.MaxVertices), api.ErrVertex},
		{"a loop beyond", 3, edgesOf(3, 3), api.ErrVertex},
		{"a loop below", 3, edgesOf(-1, -1), api.ErrVertex},
		{"a loop", 3, edgesOf(2, 2), api.ErrLoop},
		{"a loop of 0", 1, edgesOf(0, 0), api.ErrLoop},
		{"an edge twice", 3, edgesOf(0, 1, 0, 1), api.ErrTwice},
		{"an edge twice, turned", 3, edgesOf(0, 1, 1, 2, 1, 0), api.ErrTwice},
		{"a loop ahead of an end beyond", 3, edgesOf(1, 1, 0, 3), api.ErrLoop},
		{"an end beyond ahead of a loop", 3, edgesOf(0, 1, 0, 3, 1, 1), api.ErrVertex},
		{"twice ahead of an end beyond", 3, edgesOf(0, 1, 1, 0, 0, 3), api.ErrTwice},
		{"an end beyond between two alike", 3, edgesOf(0, 1, 0, 3, 1, 0), api.ErrVertex},
		{"a loop between two alike", 3, edgesOf(0, 1, 2, 2, 1, 0), api.ErrLoop},
		{"a loop twice", 3, edgesOf(2, 2, 2, 2), api.ErrLoop},
		{"beyond twice", 3, edgesOf(0, 7, 0, 7), api.ErrVertex},
	} {
		g, err := graph.Make(c.n, c.l)
		wantRefused(t, c.what, g, err, c.want)
	}
}

func TestMakeOfTheMostEdges(t *testing.T) {
	most := full(400, api.MaxEdges)
	turned := slices.Clone(most)
	slices.Reverse(turned)
	for i, e := range turned {
		turned[i] = api.Edge{A: e.B, B: e.A}
	}
	for _, l := range [][]api.Edge{most, turned} {
		g, err := graph.Make(400, l)
		if err != api.OK || g.N != 400 || !slices.Equal(g.Edges, most) {
			t.Fatalf("Make of the most edges: %d edges, error %d", len(g.Edges), err)
		}
	}
	for _, c := range []struct {
		what string
		more []api.Edge
		want api.Errno
	}{
		{"one more", edgesOf(398, 399), api.ErrLimit},
		{"one more and others", edgesOf(399, 398, 398, 397), api.ErrLimit},
		{"one more ahead of an end beyond", edgesOf(398, 399, 0, 400), api.ErrLimit},
		{"one more ahead of a loop", edgesOf(398, 399, 1, 1), api.ErrLimit},
		{"one more ahead of itself", edgesOf(398, 399, 398, 399), api.ErrLimit},
		{"the one more is there", edgesOf(1, 0), api.ErrTwice},
		{"the one more is a loop", edgesOf(5, 5), api.ErrLoop},
		{"the one more ends beyond", edgesOf(5, 400), api.ErrVertex},
		{"the one more is there, then another", edgesOf(0, 1, 398, 399), api.ErrTwice},
	} {
		g, err := graph.Make(400, slices.Concat(most, c.more))
		wantRefused(t, c.what, g, err, c.want)
	}
}

func TestAskedOfAGraph(t *testing.T) {
	g := graphOf(6, 0, 1, 0, 3, 1, 2, 1, 5, 2, 5)
	for v, want := range [][]int{{1, 3}, {0, 2, 5}, {1, 5}, {0}, {}, {1, 2}} {
		if got := graph.Near(g, v); !slices.Equal(got, want) {
			t.Errorf("Near(%d): %v, want %v", v, got, want)
		}
		if got := graph.Degree(g, v); got != len(want) {
			t.Errorf("Degree(%d): %d, want %d", v, got, len(want))
		}
	}
	for i, e := range g.Edges {
		for _, c := range []api.Edge{e, {A: e.B, B: e.A}} {
			if !graph.Has(g, c.A, c.B) {
				t.Errorf("Has(%d, %d): false", c.A, c.B)
			}
			if got := graph.Index(g, c.A, c.B); got != i {
				t.Errorf("Index(%d, %d): %d, want %d", c.A, c.B, got, i)
			}
		}
	}
}

func TestAskedOfTheLastVertex(t *testing.T) {
	last := api.MaxVertices - 1
	g := graphOf(api.MaxVertices, 0, last, last-1, last)
	if got := graph.Near(g, last); !slices.Equal(got, []int{0, last - 1}) || graph.Degree(g, last) != 2 {
		t.Errorf("Near of the last: %v, Degree %d", got, graph.Degree(g, last))
	}
	if !graph.Has(g, last, last-1) || graph.Index(g, last, last-1) != 1 || graph.Index(g, last, 0) != 0 {
		t.Error("the edges of the last vertex are not there")
	}
}

func TestAskedOfTheMostEdges(t *testing.T) {
	g := api.Graph{N: 400, Edges: full(400, api.MaxEdges)}
	e := g.Edges[api.MaxEdges-1]
	if got := graph.Index(g, e.B, e.A); got != api.MaxEdges-1 {
		t.Errorf("Index of the last edge: %d", got)
	}
	if graph.Degree(g, 0) != 399 || graph.Has(g, 398, 399) {
		t.Errorf("Degree of 0: %d; Has of what is not there: %v", graph.Degree(g, 0), graph.Has(g, 398, 399))
	}
}

// wantNothing: of what is not there, or of a graph that is not right.
func wantNothing(t *testing.T, what string, g api.Graph, a, b int) {
	t.Helper()
	if graph.Has(g, a, b) {
		t.Errorf("%s: Has(%d, %d)", what, a, b)
	}
	if got := graph.Index(g, a, b); got != -1 {
		t.Errorf("%s: Index(%d, %d): %d, want -1", what, a, b, got)
	}
}

func TestAskedOfWhatIsNotThere(t *testing.T) {
	g := graphOf(5, 0, 1, 0, 3, 1, 2)
	for _, c := range [][2]int{
		{0, 2}, {2, 3}, {3, 4}, {4, 4}, {0, 0}, {1, 1}, {0, 5}, {5, 6}, {-1, 0}, {-1, -1}, {-1, 1},
		{math.MinInt, math.MaxInt}, {math.MaxInt, math.MaxInt}, {math.MinInt, 0}, {0, math.MaxInt},
	} {
		wantNothing(t, "a pair that is not joined", g, c[0], c[1])
		wantNothing(t, "a pair that is not joined, turned", g, c[1], c[0])
		wantNothing(t, "a graph of nothing", api.Graph{}, c[0], c[1])
	}
	for _, v := range []int{4, 5, 6, -1, math.MinInt, math.MaxInt} {
		if len(graph.Near(g, v)) != 0 || graph.Degree(g, v) != 0 {
			t.Errorf("of %d: Near %v, Degree %d", v, graph.Near(g, v), graph.Degree(g, v))
		}
	}
}

func TestAskedOfAWrongGraph(t *testing.T) {
	for what, g := range wrongGraphs() {
		wantNothing(t, what, g, 0, 1)
		wantNothing(t, what, g, 1, 0)
		wantNothing(t, what, g, 1, 1)
		for _, e := range g.Edges[:min(len(g.Edges), 5)] {
			wantNothing(t, what, g, e.A, e.B)
			if len(graph.Near(g, e.A)) != 0 || graph.Degree(g, e.B) != 0 {
				t.Errorf("%s: Near(%d) %v, Degree(%d) %d", what, e.A, graph.Near(g, e.A), e.B, graph.Degree(g, e.B))
			}
		}
	}
}

// P2.2

func TestAdd(t *testing.T) {
	for _, c := range []struct {
		g    api.Graph
		a, b int
		want api.Graph
	}{
		{graphOf(2), 0, 1, graphOf(2, 0, 1)},
		{graphOf(2), 1, 0, graphOf(2, 0, 1)},
		{graphOf(4, 0, 1, 2, 3), 2, 0, graphOf(4, 0, 1, 0, 2, 2, 3)},
		{graphOf(4, 0, 2, 2, 3), 0, 1, graphOf(4, 0, 1, 0, 2, 2, 3)},
		{graphOf(4, 0, 1, 1, 2), 3, 2, graphOf(4, 0, 1, 1, 2, 2, 3)},
		{graphOf(4, 0, 3, 2, 3), 1, 2, graphOf(4, 0, 3, 1, 2, 2, 3)},
		{graphOf(api.MaxVertices), 4095, 4094, graphOf(api.MaxVertices, 4094, 4095)},
	} {
		g, err := graph.Add(c.g, c.a, c.b)
		wantGraph(t, "Add", g, err, c.want)
	}
}

func TestRemove(t *testing.T) {
	for _, c := range []struct {
		g    api.Graph
		a, b int
		want api.Graph
	}{
		{graphOf(2, 0, 1), 0, 1, graphOf(2)},
		{graphOf(2, 0, 1), 1, 0, graphOf(2)},
		{graphOf(4, 0, 1, 0, 2, 2, 3), 2, 0, graphOf(4, 0, 1, 2, 3)},
		{graphOf(4, 0, 1, 0, 2, 2, 3), 0, 1, graphOf(4, 0, 2, 2, 3)},
		{graphOf(4, 0, 1, 0, 2, 2, 3), 3, 2, graphOf(4, 0, 1, 0, 2)},
		{graphOf(api.MaxVertices, 4094, 4095), 4095, 4094, graphOf(api.MaxVertices)},
	} {
		g, err := graph.Remove(c.g, c.a, c.b)
		wantGraph(t, "Remove", g, err, c.want)
	}
}

func TestAddAndRemoveRefuse(t *testing.T) {
	g := graphOf(4, 0, 1, 2, 3)
	for _, c := range []struct {
		what        string
		g           api.Graph
		a, b        int
		add, remove api.Errno
	}{
		{"a graph that is not right ahead of a vertex", graphOf(4, 1, 0), 0, 9, api.ErrGraph, api.ErrGraph},
		{"a graph that is not right ahead of a loop", graphOf(4, 1, 0), 1, 1, api.ErrGraph, api.ErrGraph},
		{"an end beyond", g, 0, 4, api.ErrVertex, api.ErrVertex},
		{"an end beyond, first", g, 4, 0, api.ErrVertex, api.ErrVertex},
		{"an end far beyond", g, 0, math.MaxInt, api.ErrVertex, api.ErrVertex},
		{"an end below 0", g, -1, 1, api.ErrVertex, api.ErrVertex},
		{"an end below 0, last", g, 1, -1, api.ErrVertex, api.ErrVertex},
		{"an end far below 0", g, math.MinInt, 1, api.ErrVertex, api.ErrVertex},
		{"a loop beyond", g, 4, 4, api.ErrVertex, api.ErrVertex},
		{"a loop below 0", g, -1, -1, api.ErrVertex, api.ErrVertex},
		{"an edge of no vertices", api.Graph{}, 0, 0, api.ErrVertex, api.ErrVertex},
		{"a loop", g, 2, 2, api.ErrLoop, api.ErrNone},
		{"a loop of 0", graphOf(1), 0, 0, api.ErrLoop, api.ErrNone},
	} {
		h, err := graph.Add(c.g, c.a, c.b)
		wantRefused(t, "Add: "+c.what, h, err, c.add)
		h, err = graph.Remove(c.g, c.a, c.b)
		wantRefused(t, "Remove: "+c.what, h, err, c.remove)
	}
	for _, e := range edgesOf(0, 1, 1, 0, 2, 3, 3, 2) {
		h, err := graph.Add(g, e.A, e.B)
		wantRefused(t, "Add of what is there", h, err, api.ErrTwice)
	}
	for _, e := range edgesOf(0, 2, 2, 0, 1, 2, 3, 1, 0, 3) {
		h, err := graph.Remove(g, e.A, e.B)
		wantRefused(t, "Remove of what is not there", h, err, api.ErrNone)
	}
}

func TestChangesOfAWrongGraph(t *testing.T) {
	for what, g := range wrongGraphs() {
		for _, e := range edgesOf(0, 1, 1, 3, 2, 2, -1, 9) {
			h, err := graph.Add(g, e.A, e.B)
			wantRefused(t, "Add: "+what, h, err, api.ErrGraph)
			h, err = graph.Remove(g, e.A, e.B)
			wantRefused(t, "Remove: "+what, h, err, api.ErrGraph)
		}
	}
}

func TestChangesOfTheMostEdges(t *testing.T) {
	most := api.Graph{N: 400, Edges: full(400, api.MaxEdges)}
	for _, c := range []struct {
		what string
		a, b int
		want api.Errno
	}{
		{"one more", 398, 399, api.ErrLimit},
		{"one more, turned", 399, 398, api.ErrLimit},
		{"what is there", 1, 0, api.ErrTwice},
		{"a loop", 399, 399, api.ErrLoop},
		{"an end beyond", 0, 400, api.ErrVertex},
	} {
		g, err := graph.Add(most, c.a, c.b)
		wantRefused(t, c.what, g, err, c.want)
	}
	less, err := graph.Remove(most, 1, 0)
	if err != api.OK || !slices.Equal(less.Edges, most.Edges[1:]) {
		t.Fatalf("Remove: %d edges, error %d", len(less.Edges), err)
	}
	again, err := graph.Add(less, 398, 399)
	if err != api.OK || len(again.Edges) != api.MaxEdges || !graph.Has(again, 398, 399) {
		t.Errorf("Add of the last that there is room for: %d edges, error %d", len(again.Edges), err)
	}
}

func TestAddedAndRemovedIsAsItWas(t *testing.T) {
	g := graphOf(6, 0, 1, 0, 3, 1, 2, 1, 5, 2, 5)
	for a := range g.N {
		for b := range g.N {
			if a == b || graph.Has(g, a, b) {
				continue
			}
			more, err := graph.Add(g, a, b)
			if err != api.OK || !graph.Right(more) || !graph.Has(more, b, a) {
				t.Fatalf("Add(%d, %d): %v, error %d", a, b, more, err)
			}
			back, err := graph.Remove(more, b, a)
			wantGraph(t, "added and removed", back, err, g)
		}
	}
	for _, e := range g.Edges {
		less, err := graph.Remove(g, e.A, e.B)
		if err != api.OK || !graph.Right(less) || graph.Has(less, e.A, e.B) {
			t.Fatalf("Remove(%d, %d): %v, error %d", e.A, e.B, less, err)
		}
		back, err := graph.Add(less, e.A, e.B)
		wantGraph(t, "removed and added", back, err, g)
	}
}

// R3: what is handed in, with the room behind its end, stays as it was and is not kept.

func TestWhatIsHandedInStays(t *testing.T) {
	kept := edgesOf(0, 1, 0, 3, 1, 2, 8, 9, 7, 6, 5, 5)
	room := slices.Clone(kept)
	g := api.Graph{N: 5, Edges: room[:3]}
	graph.Right(g)
	graph.Has(g, 0, 3)
	graph.Near(g, 1)
	graph.Degree(g, 1)
	graph.Index(g, 1, 2)
	graph.Add(g, 3, 4)
	graph.Add(g, 0, 2)
	graph.Add(g, 9, 0)
	graph.Remove(g, 0, 1)
	graph.Remove(g, 1, 2)
	graph.Remove(g, 4, 4)
	graph.Make(10, room[:5])
	graph.Make(10, room)
	if !slices.Equal(room, kept) {
		t.Errorf("handed in as %v, then %v", kept, room)
	}
}

func TestWhatIsHandedOutIsNew(t *testing.T) {
	l := edgesOf(0, 1, 0, 3, 1, 2)
	made, _ := graph.Make(5, l)
	l[0] = api.Edge{A: 3, B: 4}
	wantGraph(t, "Make, its list written into", made, api.OK, graphOf(5, 0, 1, 0, 3, 1, 2))

	more, _ := graph.Add(made, 3, 4)
	less, _ := graph.Remove(made, 1, 2)
	spoil(more.Edges)
	spoil(less.Edges)
	wantGraph(t, "its changed forms written into", made, api.OK, graphOf(5, 0, 1, 0, 3, 1, 2))

	near := graph.Near(made, 0)
	near[0] = 99
	if got := graph.Near(made, 0); !slices.Equal(got, []int{1, 3}) {
		t.Errorf("Near, its answer written into: %v", got)
	}
	more, _ = graph.Add(made, 3, 4)
	less, _ = graph.Remove(made, 1, 2)
	spoil(made.Edges)
	wantGraph(t, "Add, its graph written into", more, api.OK, graphOf(5, 0, 1, 0, 3, 1, 2, 3, 4))
	wantGraph(t, "Remove, its graph written into", less, api.OK, graphOf(5, 0, 1, 0, 3))
}

// spoil writes over a list and the room behind its end.
func spoil(l []api.Edge) {
	l = l[:cap(l)]
	for i := range l {
		l[i] = api.Edge{A: -7, B: -7}
	}
}

// model is a graph as a table of what is joined.
type model [][]bool

func newModel(n int) model {
	m := make(model, n)
	for v := range m {
		m[v] = make([]bool, n)
	}
	return m
}

func (m model) set(a, b int, yes bool) { m[a][b], m[b][a] = yes, yes }

func (m model) graph() api.Graph {
	g := api.Graph{N: len(m)}
	for a := range m {
		for b := a + 1; b < len(m); b++ {
			if m[a][b] {
				g.Edges = append(g.Edges, api.Edge{A: a, B: b})
			}
		}
	}
	return g
}

func (m model) near(v int) []int {
	var near []int
	for w, yes := range m[v] {
		if yes {
			near = append(near, w)
		}
	}
	return near
}

func checkAgainst(t *testing.T, m model, g api.Graph) {
	t.Helper()
	if !graph.Right(g) || !same(g, m.graph()) {
		t.Fatalf("%v, want %v", g, m.graph())
	}
	for a := range m {
		if want := m.near(a); !slices.Equal(graph.Near(g, a), want) || graph.Degree(g, a) != len(want) {
			t.Fatalf("Near(%d) of %v: %v, want %v", a, g, graph.Near(g, a), want)
		}
		for b := range m {
			if graph.Has(g, a, b) != m[a][b] {
				t.Fatalf("Has(%d, %d) of %v: %v", a, b, g, !m[a][b])
			}
			want := slices.Index(g.Edges, api.Edge{A: min(a, b), B: max(a, b)})
			if got := graph.Index(g, a, b); got != want {
				t.Fatalf("Index(%d, %d) of %v: %d, want %d", a, b, g, got, want)
			}
		}
	}
}

func TestAgainstATable(t *testing.T) {
	seed := uint32(7)
	next := func(n int) int {
		seed = seed*1664525 + 1013904223
		return int(seed>>8) % n
	}
	for range 60 {
		n := 1 + next(9)
		m := newModel(n)
		g, err := graph.Make(n, nil)
		if err != api.OK {
			t.Fatalf("Make(%d): error %d", n, err)
		}
		var order []api.Edge
		for range 40 {
			a, b := next(n), next(n)
			if m[a][b] {
				g, err = graph.Remove(g, a, b)
				m.set(a, b, false)
				order = slices.DeleteFunc(order, func(e api.Edge) bool { return min(a, b) == min(e.A, e.B) && max(a, b) == max(e.A, e.B) })
			} else if a != b {
				g, err = graph.Add(g, a, b)
				m.set(a, b, true)
				order = append(order, api.Edge{A: a, B: b})
			}
			if err != api.OK {
				t.Fatalf("a change at %d %d: error %d", a, b, err)
			}
			made, err := graph.Make(n, order)
			wantGraph(t, "Make in the order in which they came", made, err, g)
		}
		checkAgainst(t, m, g)
	}
}
