package sides_test

import (
	"math"
	"slices"
	"testing"

	"garland/api"
	"garland/sides"
)

// graphOf: 3, 0, 1, 1, 2 is the graph of three vertices and the edges 0 1 and 1 2.
func graphOf(n int, ends ...int) api.Graph {
	g := api.Graph{N: n}
	for i := 0; i+1 < len(ends); i += 2 {
		g.Edges = append(g.Edges, api.Edge{A: ends[i], B: ends[i+1]})
	}
	return g
}

// sorted is g with its edges turned and set in order.
func sorted(g api.Graph) api.Graph {
	for i, e := range g.Edges {
		g.Edges[i] = api.Edge{A: min(e.A, e.B), B: max(e.A, e.B)}
	}
	slices.SortFunc(g.Edges, func(e, f api.Edge) int {
		if e.A != f.A {
			return e.A - f.A
		}
		return e.B - f.B
	})
	return g
}

// ringOf is a graph of n vertices, of which those of l are joined in a ring.
func ringOf(n int, l []int) api.Graph {
	g := api.Graph{N: n}
	for i, v := range l {
		g.Edges = append(g.Edges, api.Edge{A: v, B: l[(i+1)%len(l)]})
	}
	return sorted(g)
}

// count is the numbers from 0 to n - 1.
func count(n int) []int {
	l := make([]int, n)
	for i := range l {
		l[i] = i
	}
	return l
}

// turnAbout is 0 1 0 1 .., n numbers.
func turnAbout(n int) []int {
	l := count(n)
	for i := range l {
		l[i] %= 2
	}
	return l
}

// pathOf is a path of n vertices.
func pathOf(n int) api.Graph {
	g := api.Graph{N: n}
	for v := 1; v < n; v++ {
		g.Edges = append(g.Edges, api.Edge{A: v - 1, B: v})
	}
	return g
}

// isCycle is the definition, edge by edge.
func isCycle(g api.Graph, l []int) bool {
	for i, v := range l {
		w := l[(i+1)%len(l)]
		e := api.Edge{A: min(v, w), B: max(v, w)}
		if slices.Contains(l[:i], v) || !slices.Contains(g.Edges, e) {
			return false
		}
	}
	return len(l) >= 3
}

func wantSides(t *testing.T, what string, g api.Graph, want []int) {
	t.Helper()
	side, cycle, err := sides.Of(g)
	if err != api.OK || len(cycle) != 0 || !slices.Equal(side, want) {
		t.Errorf("%s: Of: %v, %v, error %d, want %v", what, side, cycle, err, want)
	}
}

// wantCycle: an odd cycle, by the definition and as IsCycle has it; of that length, if there is one alone (else 0).
func wantCycle(t *testing.T, what string, g api.Graph, length int) {
	t.Helper()
	side, cycle, err := sides.Of(g)
	if err != api.ErrSides || len(side) != 0 || len(cycle)%2 != 1 || !isCycle(g, cycle) || !sides.IsCycle(g, cycle) {
		t.Errorf("%s: Of: %v, %v, error %d, want an odd cycle", what, side, cycle, err)
	}
	if length > 0 && len(cycle) != length {
		t.Errorf("%s: Of: a cycle of %d, want one of %d", what, len(cycle), length)
	}
}

// P4.1

func TestSides(t *testing.T) {
	for _, c := range []struct {
		what string
		g    api.Graph
		want []int
	}{
		{"the zero value", api.Graph{}, nil},
		{"no vertices", api.Graph{Edges: []api.Edge{}}, nil},
		{"one vertex", graphOf(1), []int{0}},
		{"vertices without edges", graphOf(4), []int{0, 0, 0, 0}},
		{"an edge", graphOf(2, 0, 1), []int{0, 1}},
		{"a path", graphOf(5, 0, 1, 1, 2, 2, 3, 3, 4), []int{0, 1, 0, 1, 0}},
		{"a path that goes to and fro", graphOf(5, 0, 4, 1, 3, 1, 4, 2, 3), []int{0, 0, 0, 1, 1}},
		{"a star, its middle first", graphOf(4, 0, 1, 0, 2, 0, 3), []int{0, 1, 1, 1}},
		{"a star, its middle last", graphOf(4, 0, 3, 1, 3, 2, 3), []int{0, 0, 0, 1}},
		{"a square", graphOf(4, 0, 1, 0, 3, 1, 2, 2, 3), []int{0, 1, 0, 1}},
		{"a square, across", graphOf(4, 0, 2, 0, 3, 1, 2, 1, 3), []int{0, 0, 1, 1}},
		{"two squares at an edge", graphOf(6, 0, 1, 0, 3, 1, 2, 1, 4, 2, 3, 2, 5, 4, 5), []int{0, 1, 0, 1, 0, 1}},
		{"a square and its neighbour at a vertex", graphOf(7, 0, 1, 0, 3, 1, 2, 2, 3, 3, 4, 3, 6, 4, 5, 5, 6), []int{0, 1, 0, 1, 0, 1, 0}},
		{"all of three with all of two", graphOf(5, 0, 3, 0, 4, 1, 3, 1, 4, 2, 3, 2, 4), []int{0, 0, 0, 1, 1}},
		{"a cube", graphOf(8, 0, 1, 0, 2, 0, 4, 1, 3, 1, 5, 2, 3, 2, 6, 3, 7, 4, 5, 4, 6, 5, 7, 6, 7), []int{0, 1, 1, 0, 1, 0, 0, 1}},
	} {
		wantSides(t, c.what, c.g, c.want)
	}
}

func TestTheLeastOfEachPieceIsOnSide0(t *testing.T) {
	for _, c := range []struct {
		what string
		g    api.Graph
		want []int
	}{
		{"two edges", graphOf(4, 0, 1, 2, 3), []int{0, 1, 0, 1}},
		{"two edges that cross", graphOf(4, 0, 2, 1, 3), []int{0, 0, 1, 1}},
		{"an edge within an edge", graphOf(4, 0, 3, 1, 2), []int{0, 0, 1, 1}},
		{"some alone between", graphOf(6, 1, 3, 3, 5), []int{0, 0, 0, 1, 0, 0}},
		{"the least one at an end", graphOf(6, 0, 1, 2, 4, 3, 4, 3, 5), []int{0, 1, 0, 0, 1, 1}},
		{"the least one in the middle", graphOf(6, 0, 5, 1, 2, 1, 3, 3, 4), []int{0, 0, 1, 1, 0, 1}},
		{"two stars, their middles last", graphOf(8, 0, 6, 1, 7, 2, 6, 3, 7, 4, 6, 5, 7), []int{0, 0, 0, 0, 0, 0, 1, 1}},
		{"two stars, a middle first", graphOf(7, 0, 2, 0, 4, 0, 5, 1, 6, 3, 6), []int{0, 0, 1, 0, 1, 1, 1}},
		{"an edge, a square, and one alone", graphOf(7, 0, 5, 1, 3, 1, 4, 3, 6, 4, 6), []int{0, 0, 0, 1, 1, 1, 0}},
	} {
		wantSides(t, c.what, c.g, c.want)
	}
}

func TestRings(t *testing.T) {
	for _, n := range []int{3, 4, 5, 6, 7, 8, 9, 64, 65, 100, 101, 1000, 1001, api.MaxVertices - 1, api.MaxVertices} {
		g := ringOf(n, count(n))
		if n%2 == 0 {
			wantSides(t, "an even ring", g, turnAbout(n))
		} else {
			wantCycle(t, "an odd ring", g, n)
		}
	}
	// The ring goes round by steps of 3, so that neighbours stand far apart.
	for _, n := range []int{5, 7, 11, 101, 1001} {
		l := count(n)
		for i := range l {
			l[i] = 3 * i % n
		}
		if n%3 != 0 {
			wantCycle(t, "an odd ring by threes", ringOf(n, l), n)
		}
	}
}

func TestOddCycles(t *testing.T) {
	for _, c := range []struct {
		what   string
		g      api.Graph
		length int
	}{
		{"a triangle", graphOf(3, 0, 1, 0, 2, 1, 2), 3},
		{"a triangle of the last ones", graphOf(6, 3, 4, 3, 5, 4, 5), 3},
		{"a triangle behind an edge", graphOf(5, 0, 1, 2, 3, 2, 4, 3, 4), 3},
		{"a triangle ahead of an edge", graphOf(5, 0, 2, 0, 3, 1, 4, 2, 3), 3},
		{"a triangle with a tail", graphOf(5, 0, 1, 0, 2, 1, 2, 2, 3, 3, 4), 3},
		{"a tail with a triangle", graphOf(6, 0, 1, 1, 2, 2, 3, 3, 4, 3, 5, 4, 5), 3},
		{"a tail with a ring of five", graphOf(6, 0, 5, 1, 2, 1, 5, 2, 3, 3, 4, 4, 5), 5},
		{"squares, and a triangle at their end", graphOf(9, 0, 1, 0, 2, 1, 3, 2, 3, 3, 4, 3, 5, 4, 6, 5, 6, 6, 7, 6, 8, 7, 8), 3},
		{"a square with one across", graphOf(4, 0, 1, 0, 2, 0, 3, 1, 2, 2, 3), 3},
		{"all of four", graphOf(4, 0, 1, 0, 2, 0, 3, 1, 2, 1, 3, 2, 3), 3},
		{"two triangles at a vertex", graphOf(5, 0, 2, 0, 4, 1, 2, 1, 3, 2, 3, 2, 4), 3},
		{"two triangles apart", graphOf(6, 0, 2, 0, 4, 1, 3, 1, 5, 2, 4, 3, 5), 3},
		{"the star within the ring of five", graphOf(10, 0, 1, 0, 4, 0, 5, 1, 2, 1, 6, 2, 3, 2, 7, 3, 4, 3, 8, 4, 9, 5, 7, 5, 8, 6, 8, 6, 9, 7, 9), 0},
	} {
		wantCycle(t, c.what, c.g, c.length)
	}
}

func TestAnOddCycleFarFromTheLeastVertex(t *testing.T) {
	for _, length := range []int{3, 5, 99} {
		for _, way := range []int{1, 2, 63, 500, 3000} {
			// A path leads from 0 to the ring, which it meets at its first vertex.
			ring := count(way + length)[way:]
			g := ringOf(way+length, ring)
			for v := range way {
				g.Edges = append(g.Edges, api.Edge{A: v, B: v + 1})
			}
			wantCycle(t, "behind a path", sorted(g), length)

			// An even piece ahead of it has the least vertex of all.
			h := ringOf(way+length+4, []int{0, 1, 2, 3})
			for _, e := range g.Edges {
				h.Edges = append(h.Edges, api.Edge{A: e.A + 4, B: e.B + 4})
			}
			wantCycle(t, "behind a path, and a square ahead", sorted(h), length)
		}
	}
}

func TestOfTheMostVertices(t *testing.T) {
	n := api.MaxVertices
	wantSides(t, "no edges", api.Graph{N: n}, make([]int, n))
	path := pathOf(n)
	wantSides(t, "a path of all", path, turnAbout(n))
	path.Edges = slices.Insert(path.Edges, n-2, api.Edge{A: n - 3, B: n - 1})
	wantCycle(t, "a path of all, a triangle at its end", path, 3)
	star := api.Graph{N: n}
	want := make([]int, n)
	for v := range n - 1 {
		star.Edges = append(star.Edges, api.Edge{A: v, B: n - 1})
	}
	want[n-1] = 1
	wantSides(t, "a star of all", star, want)
}

func TestOfTheMostEdges(t *testing.T) {
	g := api.Graph{N: 512}
	for a := range 256 {
		for b := 256; b < 512; b++ {
			g.Edges = append(g.Edges, api.Edge{A: a, B: b})
		}
	}
	if len(g.Edges) != api.MaxEdges {
		t.Fatalf("%d edges", len(g.Edges))
	}
	want := slices.Concat(make([]int, 256), slices.Repeat([]int{1}, 256))
	wantSides(t, "as many edges as may be", g, want)
	round := count(512)
	for i := range round {
		round[i] = i/2 + 256*(i%2)
	}
	if !sides.IsCycle(g, round) {
		t.Error("IsCycle of all vertices, to and fro")
	}

	odd := api.Graph{N: 512, Edges: slices.Clone(g.Edges)}
	odd.Edges[api.MaxEdges-1] = api.Edge{A: 510, B: 511}
	wantCycle(t, "as many edges as may be, one of them within a side", odd, 3)
	g.Edges = append(g.Edges, api.Edge{A: 510, B: 511})
	wantWrong(t, "an edge too many", g)
}

// P4.2

func TestIsCycle(t *testing.T) {
	five := ringOf(5, count(5))
	square := graphOf(6, 0, 1, 0, 3, 1, 2, 2, 3, 3, 4)
	whole := graphOf(5, 0, 1, 0, 2, 0, 3, 0, 4, 1, 2, 1, 3, 1, 4, 2, 3, 2, 4, 3, 4)
	for _, c := range []struct {
		what string
		g    api.Graph
		l    []int
		want bool
	}{
		{"a triangle", graphOf(3, 0, 1, 0, 2, 1, 2), []int{0, 1, 2}, true},
		{"a triangle, turned", graphOf(3, 0, 1, 0, 2, 1, 2), []int{1, 0, 2}, true},
		{"all round", five, []int{0, 1, 2, 3, 4}, true},
		{"all round, the other way", five, []int{4, 3, 2, 1, 0}, true},
		{"all round, from the middle", five, []int{2, 3, 4, 0, 1}, true},
		{"an even cycle", square, []int{1, 2, 3, 0}, true},
		{"a cycle of a few", whole, []int{4, 1, 3}, true},
		{"a cycle of four, across", whole, []int{4, 0, 2, 1}, true},
		{"none", five, nil, false},
		{"no vertex", five, []int{}, false},
		{"one", five, []int{0}, false},
		{"two that are joined", five, []int{0, 1}, false},
		{"two that are joined, turned", whole, []int{3, 2}, false},
		{"two that are not joined", five, []int{0, 2}, false},
		{"to and fro", five, []int{0, 1, 0}, false},
		{"to and fro, and on", square, []int{0, 1, 2, 1}, false},
		{"the first one again at the end", five, []int{0, 1, 2, 3, 4, 0}, false},
		{"twice round", five, []int{0, 1, 2, 3, 4, 0, 1, 2, 3, 4}, false},
		{"two triangles at a vertex", whole, []int{0, 1, 2, 0, 3, 4}, false},
		{"one twice in a row", whole, []int{0, 0, 1}, false},
		{"one alone, three times", whole, []int{1, 1, 1}, false},
		{"the last not joined with the first", five, []int{0, 1, 2, 3}, false},
		{"the last not joined with the first, of three", square, []int{0, 1, 2}, false},
		{"the first two not joined", five, []int{0, 2, 1}, false},
		{"two in the middle not joined", square, []int{0, 1, 3}, false},
		{"the last two not joined", square, []int{3, 0, 1, 4}, false},
		{"one that stands alone", square, []int{0, 1, 5}, false},
		{"one beyond", five, []int{0, 1, 2, 3, 5}, false},
		{"one beyond, first", five, []int{5, 1, 2, 3, 4}, false},
		{"one below 0", five, []int{0, 1, -1}, false},
		{"one below 0, first", five, []int{-1, 1, 2, 3, 4}, false},
		{"far beyond", five, []int{0, math.MaxInt, 1, 2}, false},
		{"far below 0", five, []int{0, 1, math.MinInt}, false},
		{"a cycle, and one beyond", five, []int{0, 1, 2, 3, 4, 5}, false},
		{"of no vertices", api.Graph{}, []int{0, 1, 2}, false},
		{"of no vertices, none", api.Graph{}, nil, false},
		{"of vertices without edges", graphOf(3), []int{0, 1, 2}, false},
	} {
		if got := sides.IsCycle(c.g, c.l); got != c.want {
			t.Errorf("%s: IsCycle of %v: %v", c.what, c.l, got)
		}
	}
}

func TestIsCycleOfALongList(t *testing.T) {
	n := api.MaxVertices
	all := count(n)
	ring := ringOf(n, all)
	if !sides.IsCycle(ring, all) || sides.IsCycle(pathOf(n), all) {
		t.Error("IsCycle of all vertices")
	}
	if sides.IsCycle(ring, all[:n-1]) || sides.IsCycle(ring, all[1:]) {
		t.Error("IsCycle of all vertices but one")
	}
	if sides.IsCycle(ring, append(slices.Clone(all), 0)) || sides.IsCycle(ring, slices.Repeat(all, 100)) {
		t.Error("IsCycle of more than all vertices")
	}
	all[n/2] = n
	if sides.IsCycle(ring, all) {
		t.Error("IsCycle of all vertices, one of them none")
	}
}

// wantWrong: no sides, no cycle, and no list is one.
func wantWrong(t *testing.T, what string, g api.Graph) {
	t.Helper()
	side, cycle, err := sides.Of(g)
	if err != api.ErrGraph || len(side) != 0 || len(cycle) != 0 {
		t.Errorf("%s: Of: %d sides, the cycle %v, error %d, want error %d and nothing else", what, len(side), cycle, err, api.ErrGraph)
	}
	for _, l := range [][]int{nil, {}, {0}, {0, 1}, {0, 1, 2}, {2, 1, 0}, {0, 256, 1, 257}, {-1, 0, 1}, {math.MinInt, 0, math.MaxInt}} {
		if sides.IsCycle(g, l) {
			t.Errorf("%s: IsCycle of %v", what, l)
		}
	}
}

func TestOfAWrongGraph(t *testing.T) {
	// Most of them have the triangle 0 1 2, so that a call that does not look whether they are right finds it.
	for what, g := range map[string]api.Graph{
		"fewer than no vertices":     {N: -1},
		"far fewer than no vertices": {N: math.MinInt},
		"too few for its edges":      graphOf(-1, 0, 1, 0, 2, 1, 2),
		"a vertex too many":          graphOf(api.MaxVertices+1, 0, 1, 0, 2, 1, 2),
		"a vertex too many, bare":    {N: api.MaxVertices + 1},
		"far too many vertices":      graphOf(math.MaxInt, 0, 1, 0, 2, 1, 2),
		"a loop":                     graphOf(4, 0, 1, 0, 2, 1, 1, 1, 2),
		"a loop alone":               graphOf(1, 0, 0),
		"a turned edge":              graphOf(4, 0, 1, 0, 2, 2, 1),
		"a turned edge alone":        graphOf(2, 1, 0),
		"an end beyond":              graphOf(4, 0, 1, 0, 2, 1, 2, 2, 4),
		"an end far beyond":          graphOf(4, 0, 1, 0, 2, 1, 2, 2, math.MaxInt),
		"an end below 0":             graphOf(4, -1, 2, 0, 1, 0, 2, 1, 2),
		"an edge of no vertices":     graphOf(0, 0, 1),
		"edges that fall by A":       graphOf(4, 1, 2, 0, 1, 0, 2),
		"edges that fall by B":       graphOf(4, 0, 2, 0, 1, 1, 2),
		"an edge twice":              graphOf(4, 0, 1, 0, 1, 0, 2, 1, 2),
		"two sides, an edge twice":   graphOf(4, 0, 1, 0, 1),
		"two sides, edges that fall": graphOf(4, 2, 3, 0, 1),
	} {
		wantWrong(t, what, g)
	}
}

// R3: what is handed in, with the room behind its end, stays as it was and is not kept.

func TestWhatIsHandedInStays(t *testing.T) {
	kept := graphOf(6, 0, 1, 0, 3, 1, 2, 1, 3, 2, 3, 9, 8, 7, 7).Edges
	keptList := []int{3, 2, 1, 0, 1, -3, 77}
	edges, list := slices.Clone(kept), slices.Clone(keptList)
	for n := range edges {
		g := api.Graph{N: 6, Edges: edges[:n]}
		sides.Of(g)
		for m := range list {
			sides.IsCycle(g, list[:m])
		}
	}
	if !slices.Equal(edges, kept) || !slices.Equal(list, keptList) {
		t.Errorf("handed in as %v and %v, then %v and %v", kept, keptList, edges, list)
	}
}

// spoil writes over a list and the room behind its end.
func spoil(l []int) {
	l = l[:cap(l)]
	for i := range l {
		l[i] = -7
	}
}

func TestWhatIsHandedOutIsNew(t *testing.T) {
	g := graphOf(5, 0, 3, 1, 4, 2, 4)
	first, _, _ := sides.Of(g)
	second, _, _ := sides.Of(g)
	spoil(first)
	if want := []int{0, 0, 0, 1, 1}; !slices.Equal(second, want) {
		t.Errorf("an answer, another one written into: %v", second)
	}
	wantSides(t, "asked again, an answer written into", g, []int{0, 0, 0, 1, 1})
	g.Edges[0] = api.Edge{A: 0, B: 1}
	if want := []int{0, 0, 0, 1, 1}; !slices.Equal(second, want) {
		t.Errorf("an answer, what was handed in written into: %v", second)
	}

	ring := ringOf(7, count(7))
	_, cycle, _ := sides.Of(ring)
	_, other, _ := sides.Of(ring)
	spoil(cycle)
	if !isCycle(ring, other) {
		t.Errorf("a cycle, another one written into: %v", other)
	}
	wantCycle(t, "asked again, a cycle written into", ring, 7)
}

// R2: asked again, the same is told.

func TestTheSameIsToldAgain(t *testing.T) {
	whole := graphOf(5, 0, 1, 0, 2, 0, 3, 0, 4, 1, 2, 1, 3, 1, 4, 2, 3, 2, 4, 3, 4)
	_, want, _ := sides.Of(whole)
	for range 20 {
		sides.Of(ringOf(9, count(9)))
		if _, got, _ := sides.Of(whole); !slices.Equal(got, want) {
			t.Fatalf("a cycle: %v, then %v", want, got)
		}
	}
}

// sidesByTrial tries all sides of all vertices in turn. Of those that are right the first,
// with side 0 as the lesser one and earlier vertices as the weightier ones, is
// the one in which the least vertex of each piece is on side 0: it could be turned else.
func sidesByTrial(g api.Graph) ([]int, bool) {
	for mask := range 1 << g.N {
		side := make([]int, g.N)
		for v := range side {
			side[v] = mask >> (g.N - 1 - v) & 1
		}
		if !slices.ContainsFunc(g.Edges, func(e api.Edge) bool { return side[e.A] == side[e.B] }) {
			return side, true
		}
	}
	return nil, false
}

// smallGraphs hands on all graphs of n vertices.
func smallGraphs(n int, use func(g api.Graph)) {
	var edges []api.Edge
	for a := range n {
		for b := a + 1; b < n; b++ {
			edges = append(edges, api.Edge{A: a, B: b})
		}
	}
	for mask := range 1 << len(edges) {
		g := api.Graph{N: n}
		for i, e := range edges {
			if mask>>i&1 == 1 {
				g.Edges = append(g.Edges, e)
			}
		}
		use(g)
	}
}

// What follows: either there are sides, or there is an odd cycle.
func TestOfAllSmallGraphs(t *testing.T) {
	for n := range 7 {
		smallGraphs(n, func(g api.Graph) {
			if t.Failed() {
				return
			}
			if side, ok := sidesByTrial(g); ok {
				wantSides(t, "a small graph", g, side)
			} else {
				wantCycle(t, "a small graph", g, 0)
			}
		})
	}
}

func TestIsCycleOfAllSmallLists(t *testing.T) {
	for n := range 5 {
		smallGraphs(n, func(g api.Graph) {
			allLists(n, n+1, nil, func(l []int) {
				if got := sides.IsCycle(g, l); got != isCycle(g, l) {
					t.Errorf("IsCycle of %v in %v: %v", l, g, got)
				}
			})
		})
	}
}

// allLists hands on all lists that begin with l and have up to so many numbers more, from -1 to n.
func allLists(n, more int, l []int, use func(l []int)) {
	use(l)
	if more == 0 {
		return
	}
	for v := -1; v <= n; v++ {
		allLists(n, more-1, append(slices.Clone(l), v), use)
	}
}

func TestOfGraphsOfChance(t *testing.T) {
	seed := uint32(17)
	next := func(n int) int {
		seed = seed*1664525 + 1013904223
		return int(seed>>8) % n
	}
	for range 200 {
		n := 2 + next(80)
		hidden := make([]int, n)
		for v := range hidden {
			hidden[v] = next(2)
		}
		g := api.Graph{N: n}
		var within []api.Edge
		for a := range n {
			for b := a + 1; b < n; b++ {
				e := api.Edge{A: a, B: b}
				switch {
				case hidden[a] == hidden[b]:
					within = append(within, e)
				case next(n) < 2:
					g.Edges = append(g.Edges, e)
				}
			}
		}
		want := sidesFrom(g, hidden)
		wantSides(t, "two sides of chance", g, want)
		// An edge more turns it into one with an odd cycle just if it joins two that have to be on one side.
		for range min(len(within), 20) {
			e := within[next(len(within))]
			h := sorted(api.Graph{N: n, Edges: append(slices.Clone(g.Edges), e)})
			if _, joined := reach(g, e.A)[e.B]; joined {
				wantCycle(t, "two sides of chance, and an edge within one", h, 0)
			} else if side, _, err := sides.Of(h); err != api.OK || slices.ContainsFunc(h.Edges, func(e api.Edge) bool { return side[e.A] == side[e.B] }) {
				t.Fatalf("two sides of chance, and an edge between pieces: %v, error %d", side, err)
			}
		}
	}
}

// reach is all that v comes to along edges of g, found by going over the edges until none leads further.
func reach(g api.Graph, v int) map[int]struct{} {
	there := map[int]struct{}{v: {}}
	for before := 0; before < len(there); {
		before = len(there)
		for _, e := range g.Edges {
			_, a := there[e.A]
			_, b := there[e.B]
			if a || b {
				there[e.A], there[e.B] = struct{}{}, struct{}{}
			}
		}
	}
	return there
}

// sidesFrom is sides that are right, turned piece by piece so that the least vertex of each is on side 0.
func sidesFrom(g api.Graph, side []int) []int {
	want := slices.Repeat([]int{-1}, g.N)
	for v := range want {
		if want[v] >= 0 {
			continue
		}
		for w := range reach(g, v) {
			want[w] = side[w] ^ side[v]
		}
	}
	return want
}
