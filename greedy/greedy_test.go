package greedy_test

import (
	"math"
	"slices"
	"testing"

	"garland/api"
	"garland/greedy"
)

// edgesOf: 0, 1, 2, 3 are the edges 0 1 and 2 3.
func edgesOf(ends ...int) []api.Edge {
	var l []api.Edge
	for i := 0; i+1 < len(ends); i += 2 {
		l = append(l, api.Edge{A: ends[i], B: ends[i+1]})
	}
	return l
}

func graphOf(n int, ends ...int) api.Graph { return api.Graph{N: n, Edges: edgesOf(ends...)} }

// pathOf is 0 1, 1 2, 2 3, and so on, of n vertices.
func pathOf(n int) api.Graph {
	g := api.Graph{N: n}
	for v := range n - 1 {
		g.Edges = append(g.Edges, api.Edge{A: v, B: v + 1})
	}
	return g
}

// roundOf is the path of n vertices, with an edge between its ends.
func roundOf(n int) api.Graph {
	g := pathOf(n)
	g.Edges = slices.Insert(g.Edges, 1, api.Edge{A: 0, B: n - 1})
	return g
}

// starOf joins the middle with each other one of n vertices.
func starOf(n, middle int) api.Graph {
	g := api.Graph{N: n}
	for v := range n {
		if v != middle {
			g.Edges = append(g.Edges, api.Edge{A: min(v, middle), B: max(v, middle)})
		}
	}
	return g
}

// whole is the edges of the graph of n vertices that joins all of them, but no more than most.
func whole(n, most int) []api.Edge {
	var l []api.Edge
	for a := range n {
		for b := a + 1; b < n && len(l) < most; b++ {
			l = append(l, api.Edge{A: a, B: b})
		}
	}
	return l
}

func wholeOf(n int) api.Graph { return api.Graph{N: n, Edges: whole(n, api.MaxEdges)} }

// mostOfBoth is a graph of as many vertices and edges as may be: the path of all vertices, and edges of the first ones.
func mostOfBoth() api.Graph {
	g := api.Graph{N: api.MaxVertices}
	left := api.MaxEdges - (api.MaxVertices - 1)
	for a := range g.N - 1 {
		g.Edges = append(g.Edges, api.Edge{A: a, B: a + 1})
		for b := a + 2; b < g.N && left > 0; b++ {
			g.Edges = append(g.Edges, api.Edge{A: a, B: b})
			left--
		}
	}
	return g
}

// eachGraph is every graph of n vertices.
func eachGraph(n int) []api.Graph {
	var all []api.Graph
	edges := whole(n, api.MaxEdges)
	for mask := range 1 << len(edges) {
		g := api.Graph{N: n}
		for i, e := range edges {
			if mask>>i&1 == 1 {
				g.Edges = append(g.Edges, e)
			}
		}
		all = append(all, g)
	}
	return all
}

// eachMatching is every matching of g.
func eachMatching(g api.Graph) [][]int {
	all := [][]int{mateOf(g.N)}
	for _, e := range g.Edges {
		for _, mate := range all {
			if mate[e.A] == -1 && mate[e.B] == -1 {
				more := slices.Clone(mate)
				more[e.A], more[e.B] = e.B, e.A
				all = append(all, more)
			}
		}
	}
	return all
}

// eachList is every list of that length of the numbers from least to most.
func eachList(length, least, most int) [][]int {
	all := [][]int{nil}
	for range length {
		var longer [][]int
		for _, l := range all {
			for x := least; x <= most; x++ {
				longer = append(longer, append(slices.Clone(l), x))
			}
		}
		all = longer
	}
	return all
}

// mateOf is the matching of n vertices of these edges.
func mateOf(n int, ends ...int) []int {
	mate := slices.Repeat([]int{-1}, n)
	for _, e := range edgesOf(ends...) {
		mate[e.A], mate[e.B] = e.B, e.A
	}
	return mate
}

// pairs is the matching 0 1, 2 3, 4 5, and so on, of n vertices; the last one is free, if n is odd.
func pairs(n int) []int {
	mate := mateOf(n)
	for v := 0; v+1 < n; v += 2 {
		mate[v], mate[v+1] = v+1, v
	}
	return mate
}

// sizeOf is how many edges a right mate has.
func sizeOf(mate []int) int {
	ends := 0
	for _, w := range mate {
		if w != -1 {
			ends++
		}
	}
	return ends / 2
}

// joined: the definition.
func joined(g api.Graph, a, b int) bool {
	return slices.Contains(g.Edges, api.Edge{A: a, B: b}) || slices.Contains(g.Edges, api.Edge{A: b, B: a})
}

// isRight is the definition, word by word; g is right.
func isRight(g api.Graph, mate []int) bool {
	if len(mate) != g.N {
		return false
	}
	for v, w := range mate {
		if w != -1 && !(joined(g, v, w) && mate[w] == v) {
			return false
		}
	}
	return true
}

// isFull is the definition, word by word; g is right.
func isFull(g api.Graph, mate []int) bool {
	if !isRight(g, mate) {
		return false
	}
	for _, e := range g.Edges {
		if mate[e.A] == -1 && mate[e.B] == -1 {
			return false
		}
	}
	return true
}

// plainFirst is the promise, word by word; g is right.
func plainFirst(g api.Graph) []int {
	mate := mateOf(g.N)
	for v := range g.N {
		for w := range g.N {
			if mate[v] == -1 && mate[w] == -1 && joined(g, v, w) {
				mate[v], mate[w] = w, v
			}
		}
	}
	return mate
}

// wrongGraphs are graphs that are not right, by what is wrong with them.
func wrongGraphs() map[string]api.Graph {
	return map[string]api.Graph{
		"fewer than no vertices":     {N: -1},
		"far fewer than no vertices": {N: math.MinInt, Edges: edgesOf(0, 1)},
		"a vertex too many":          {N: api.MaxVertices + 1, Edges: edgesOf(0, 1)},
		"far too many vertices":      {N: math.MaxInt, Edges: edgesOf(0, 1)},
		"an edge too many":           {N: 400, Edges: whole(400, api.MaxEdges+1)},
		"a loop":                     graphOf(4, 0, 1, 1, 1),
		"a turned edge":              graphOf(4, 0, 1, 3, 2),
		"an end beyond":              graphOf(4, 0, 1, 2, 4),
		"an end far beyond":          graphOf(4, 0, 1, 2, math.MaxInt),
		"an end below 0":             graphOf(4, -1, 2, 0, 1),
		"an edge of no vertices":     graphOf(0, 0, 1),
		"edges that fall":            graphOf(4, 1, 2, 0, 1),
		"an edge twice":              graphOf(4, 0, 1, 0, 1),
	}
}

// P10.1: First

func TestFirst(t *testing.T) {
	for _, c := range []struct {
		what string
		g    api.Graph
		want []int
	}{
		{"of no vertices", api.Graph{}, nil},
		{"of no vertices, no edges", api.Graph{Edges: []api.Edge{}}, nil},
		{"of one vertex", graphOf(1), mateOf(1)},
		{"of vertices without edges", graphOf(5), mateOf(5)},
		{"of one edge", graphOf(2, 0, 1), mateOf(2, 0, 1)},
		{"of one edge, and others alone", graphOf(5, 1, 3), mateOf(5, 1, 3)},
		{"the chapter's example", pathOf(4), mateOf(4, 0, 1, 2, 3)},
		{"a path of three", pathOf(3), mateOf(3, 0, 1)},
		{"a path of five", pathOf(5), mateOf(5, 0, 1, 2, 3)},
		{"a path that begins in the middle", graphOf(4, 0, 1, 0, 2, 1, 3), mateOf(4, 0, 1)},
		{"a path whose ends are least", graphOf(4, 0, 2, 1, 3, 2, 3), mateOf(4, 0, 2, 1, 3)},
		{"a star, its middle first", starOf(5, 0), mateOf(5, 0, 1)},
		{"a star, its middle last", starOf(5, 4), mateOf(5, 0, 4)},
		{"a star, its middle in the middle", starOf(5, 2), mateOf(5, 0, 2)},
		{"two stars, their middles joined", graphOf(6, 0, 1, 0, 2, 0, 3, 1, 4, 1, 5), mateOf(6, 0, 1)},
		{"a round of three", roundOf(3), mateOf(3, 0, 1)},
		{"a round of four", roundOf(4), mateOf(4, 0, 1, 2, 3)},
		{"a round of five", roundOf(5), mateOf(5, 0, 1, 2, 3)},
		{"a round, the other way about", graphOf(5, 0, 2, 0, 3, 1, 3, 1, 4, 2, 4), mateOf(5, 0, 2, 1, 3)},
		{"two rounds", graphOf(6, 0, 2, 0, 4, 1, 3, 1, 5, 2, 4, 3, 5), mateOf(6, 0, 2, 1, 3)},
		{"a least neighbour that has a mate by then", graphOf(4, 0, 2, 1, 2, 1, 3), mateOf(4, 0, 2, 1, 3)},
		{"two neighbours that have mates by then", graphOf(7, 0, 3, 1, 4, 2, 3, 2, 4, 2, 6), mateOf(7, 0, 3, 1, 4, 2, 6)},
		{"a least neighbour below that has a mate by then", graphOf(4, 0, 1, 0, 2, 2, 3), mateOf(4, 0, 1, 2, 3)},
		{"all neighbours have mates by then", graphOf(5, 0, 3, 1, 4, 2, 3, 2, 4), mateOf(5, 0, 3, 1, 4)},
		{"all neighbours, those below too, have mates by then", graphOf(5, 0, 1, 0, 2, 1, 2, 3, 4), mateOf(5, 0, 1, 3, 4)},
		{"one that is taken takes none", graphOf(4, 0, 1, 1, 2, 1, 3), mateOf(4, 0, 1)},
	} {
		if mate := greedy.First(c.g); !slices.Equal(mate, c.want) {
			t.Errorf("%s: First(%v): %v, want %v", c.what, c.g, mate, c.want)
		}
		if mate := greedy.First(c.g); !greedy.Full(c.g, mate) {
			t.Errorf("%s: First(%v): %v, which is not full", c.what, c.g, mate)
		}
	}
}

func TestFirstOfWholeGraphs(t *testing.T) {
	for n := range 12 {
		if mate := greedy.First(wholeOf(n)); !slices.Equal(mate, pairs(n)) {
			t.Errorf("First of all joined of %d: %v", n, mate)
		}
	}
}

func TestFirstOfAWrongGraph(t *testing.T) {
	for what, g := range wrongGraphs() {
		if mate := greedy.First(g); len(mate) != 0 {
			t.Errorf("%s: %d mates", what, len(mate))
		}
	}
}

// P10.1: First, on every small graph, and what follows: it is full, and at least half as large as a largest one.

func TestFirstOfAllSmallGraphs(t *testing.T) {
	for n := range 7 {
		for _, g := range eachGraph(n) {
			mate := greedy.First(g)
			if want := plainFirst(g); !slices.Equal(mate, want) {
				t.Fatalf("First(%v): %v, want %v", g, mate, want)
			}
			if !isFull(g, mate) || !greedy.Full(g, mate) {
				t.Fatalf("First(%v): %v, which is not full", g, mate)
			}
			for _, other := range eachMatching(g) {
				if 2*sizeOf(mate) < sizeOf(other) {
					t.Fatalf("First(%v): %v, less than half of %v", g, mate, other)
				}
			}
		}
	}
}

// P10.1: Full

func TestFull(t *testing.T) {
	path, round := pathOf(6), roundOf(6)
	for _, c := range []struct {
		what string
		g    api.Graph
		mate []int
	}{
		{"of no vertices", api.Graph{}, nil},
		{"of no vertices, empty", api.Graph{}, []int{}},
		{"of one vertex", graphOf(1), mateOf(1)},
		{"of vertices without edges", graphOf(4), mateOf(4)},
		{"of one edge", graphOf(2, 0, 1), mateOf(2, 0, 1)},
		{"of one edge, and others alone", graphOf(4, 1, 2), mateOf(4, 1, 2)},
		{"all have mates", path, pairs(6)},
		{"no two free ones are joined", path, mateOf(6, 1, 2, 3, 4)},
		{"a largest one could have more", path, mateOf(6, 1, 2, 4, 5)},
		{"as few as may be, of a path of four", pathOf(4), mateOf(4, 1, 2)},
		{"as few as may be, of a round", round, mateOf(6, 0, 1, 3, 4)},
		{"a star", starOf(5, 2), mateOf(5, 2, 4)},
		{"a star, its middle first", starOf(5, 0), mateOf(5, 0, 4)},
		{"of a triangle", roundOf(3), mateOf(3, 1, 2)},
		{"all joined, one free", wholeOf(5), mateOf(5, 0, 4, 1, 3)},
	} {
		if !greedy.Full(c.g, c.mate) {
			t.Errorf("%s: Full(%v, %v): false", c.what, c.g, c.mate)
		}
	}
}

func TestNotFull(t *testing.T) {
	path := pathOf(6)
	for _, c := range []struct {
		what string
		g    api.Graph
		mate []int
	}{
		{"none of one edge", graphOf(2, 0, 1), mateOf(2)},
		{"none of a path", path, mateOf(6)},
		{"the first edge can be added", path, mateOf(6, 2, 3, 4, 5)},
		{"a middle edge can be added", path, mateOf(6, 0, 1, 4, 5)},
		{"the last edge can be added", path, mateOf(6, 0, 1, 2, 3)},
		{"the first edge and the last one", path, mateOf(6, 2, 3)},
		{"one of two in a row", path, mateOf(6, 1, 2)},
		{"the edge of the ends of a round", roundOf(6), mateOf(6, 1, 2, 3, 4)},
		{"a star without a mate", starOf(5, 2), mateOf(5)},
		{"two free ones of all joined", wholeOf(6), mateOf(6, 0, 5, 2, 3)},
		{"the last two of all joined", wholeOf(6), mateOf(6, 0, 1, 2, 3)},
		{"the first two of all joined", wholeOf(6), mateOf(6, 2, 3, 4, 5)},
	} {
		if greedy.Full(c.g, c.mate) {
			t.Errorf("%s: Full(%v, %v): true", c.what, c.g, c.mate)
		}
	}
}

func TestFullOfNoMatching(t *testing.T) {
	path := pathOf(4)
	for what, mate := range map[string][]int{
		"nothing":                        nil,
		"an empty list":                  {},
		"one too few":                    {1, 0, -1},
		"one too few, all have mates":    {1, 0, 3},
		"one too many":                   {1, 0, 3, 2, -1},
		"a pair too many":                {1, 0, 3, 2, 5, 4},
		"a mate that is not joined":      {3, 2, 1, 0},
		"mates that are not joined":      {2, 3, 0, 1},
		"a mate without a mate":          {-1, 2, 1, 2},
		"a mate without one, above it":   {1, 2, 1, -1},
		"a mate whose mate is another":   {1, 0, 1, 2},
		"mates that go round":            {1, 2, 3, 0},
		"one that is its own mate":       {0, 2, 1, -1},
		"one that is its own mate, last": {-1, 2, 1, 3},
		"all are their own mates":        {0, 1, 2, 3},
		"a mate beyond":                  {-1, 2, 1, 4},
		"a mate far beyond":              {math.MaxInt, 2, 1, -1},
		"a mate below -1":                {-2, 2, 1, -1},
		"a mate far below -1":            {-1, 2, 1, math.MinInt},
	} {
		if greedy.Full(path, mate) {
			t.Errorf("%s: Full(%v): true", what, mate)
		}
	}
	for _, mate := range [][]int{{-1}, {0}, {1, 0}} {
		if greedy.Full(api.Graph{}, mate) {
			t.Errorf("of no vertices: Full(%v): true", mate)
		}
	}
	if greedy.Full(graphOf(2), []int{1, 0}) {
		t.Errorf("of two that are not joined, mates: true")
	}
}

func TestFullOfAWrongGraph(t *testing.T) {
	for what, g := range wrongGraphs() {
		lists := [][]int{nil, {}, {1, 0}, {-1, -1, -1, -1}, {1, 0, -1, -1}, {1, 0, 3, 2}}
		if g.N >= 0 && g.N <= api.MaxVertices+1 {
			lists = append(lists, mateOf(g.N), pairs(g.N))
		}
		for _, mate := range lists {
			if greedy.Full(g, mate) {
				t.Errorf("%s: full, of a list of %d", what, len(mate))
			}
		}
	}
}

func TestFullOfAllSmallGraphs(t *testing.T) {
	for n := range 5 {
		lists := slices.Concat(eachList(n, -2, n), eachList(max(n-1, 0), -1, n), eachList(n+1, -1, 1))
		for _, g := range eachGraph(n) {
			for _, mate := range lists {
				if got := greedy.Full(g, mate); got != isFull(g, mate) {
					t.Fatalf("Full(%v, %v): %v", g, mate, got)
				}
			}
		}
	}
	for _, g := range eachGraph(5) {
		for _, mate := range eachMatching(g) {
			if got := greedy.Full(g, mate); got != isFull(g, mate) {
				t.Fatalf("Full(%v, %v): %v", g, mate, got)
			}
		}
	}
}

// Both, at the limits.

func TestTheMost(t *testing.T) {
	n := api.MaxVertices
	for _, c := range []struct {
		what string
		g    api.Graph
		want []int
	}{
		{"no edges", api.Graph{N: n}, mateOf(n)},
		{"the longest path", pathOf(n), pairs(n)},
		{"the longest round", roundOf(n), pairs(n)},
		{"the greatest star", starOf(n, n-1), mateOf(n, 0, n-1)},
		{"all joined that could be", api.Graph{N: 362, Edges: whole(362, api.MaxEdges)}, pairs(362)},
		{"the most of both", mostOfBoth(), pairs(n)},
	} {
		mate := greedy.First(c.g)
		if !slices.Equal(mate, c.want) || !greedy.Full(c.g, mate) {
			t.Errorf("%s: First has %d edges, Full is %v", c.what, sizeOf(mate), greedy.Full(c.g, mate))
		}
		if greedy.Full(c.g, mateOf(c.g.N)) != (len(c.g.Edges) == 0) {
			t.Errorf("%s: Full of none", c.what)
		}
	}
}

func TestFullOfTheMost(t *testing.T) {
	g := pathOf(api.MaxVertices)
	for v := 0; v < g.N; v += 2 {
		mate := pairs(g.N)
		mate[v], mate[v+1] = -1, -1
		if greedy.Full(g, mate) {
			t.Fatalf("the edge from %d on can be added: true", v)
		}
	}
}

// R3: what is handed in, with the room behind its end, stays as it was and is not kept.

func TestWhatIsHandedInStays(t *testing.T) {
	keptEdges := edgesOf(0, 1, 0, 4, 1, 2, 2, 3, 3, 4, 9, 8, 7, 7)
	edges := slices.Clone(keptEdges)
	keptMate := []int{-1, 2, 1, -1, -1, 77, -3}
	mate := slices.Clone(keptMate)
	for count := range len(edges) + 1 {
		g := api.Graph{N: 5, Edges: edges[:count]}
		greedy.First(g)
		for n := range len(mate) + 1 {
			greedy.Full(g, mate[:n])
		}
	}
	if !slices.Equal(edges, keptEdges) || !slices.Equal(mate, keptMate) {
		t.Errorf("handed in, then %v, %v", edges, mate)
	}
}

// spoil writes over a list and the room behind its end.
func spoil[T any](l []T, by T) {
	l = l[:cap(l)]
	for i := range l {
		l[i] = by
	}
}

func TestWhatIsToldIsNew(t *testing.T) {
	for _, plain := range []api.Graph{graphOf(3), pathOf(5), starOf(6, 3)} {
		g := api.Graph{N: plain.N, Edges: slices.Clone(plain.Edges)}
		want := greedy.First(plain)
		spoil(greedy.First(g), -7)
		if !slices.Equal(g.Edges, plain.Edges) || !slices.Equal(greedy.First(g), want) {
			t.Errorf("First(%v): an answer written into, the graph is %v", plain, g)
		}
		kept := greedy.First(g)
		spoil(g.Edges, api.Edge{A: -7, B: -7})
		if !slices.Equal(kept, want) {
			t.Errorf("First(%v): the graph written into, the answer is %v", plain, kept)
		}
	}
}
