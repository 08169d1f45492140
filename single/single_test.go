package single_test

import (
	"math"
	"slices"
	"testing"

	"garland/api"
	"garland/greedy"
	"garland/single"
)

// made is the graph of n vertices and the edges 0 1, 2 3, if 0, 1, 2, 3 are the ends; either end may come first, and any edge.
func made(n int, ends ...int) api.Graph {
	g := api.Graph{N: n}
	for i := 0; i+1 < len(ends); i += 2 {
		g.Edges = append(g.Edges, api.Edge{A: min(ends[i], ends[i+1]), B: max(ends[i], ends[i+1])})
	}
	slices.SortFunc(g.Edges, func(e, f api.Edge) int {
		if e.A != f.A {
			return e.A - f.A
		}
		return e.B - f.B
	})
	return g
}

// rowEnds is 0 1, 1 2, and so on to n - 1.
func rowEnds(n int) []int {
	var ends []int
	for v := range n - 1 {
		ends = append(ends, v, v+1)
	}
	return ends
}

func rowOf(n int) api.Graph  { return made(n, rowEnds(n)...) }
func ringOf(n int) api.Graph { return made(n, append(rowEnds(n), 0, n-1)...) }

// starOf joins 0 with each other one of n vertices.
func starOf(n int) api.Graph {
	var ends []int
	for v := 1; v < n; v++ {
		ends = append(ends, 0, v)
	}
	return made(n, ends...)
}

// wholeOf joins all of n vertices, by no more edges than may be.
func wholeOf(n int) api.Graph {
	g := api.Graph{N: n}
	for a := range n {
		for b := a + 1; b < n && len(g.Edges) < api.MaxEdges; b++ {
			g.Edges = append(g.Edges, api.Edge{A: a, B: b})
		}
	}
	return g
}

// wholeSides joins each of a vertices with each of the b behind them.
func wholeSides(a, b int) api.Graph {
	g := api.Graph{N: a + b}
	for v := range a {
		for w := a; w < a+b; w++ {
			g.Edges = append(g.Edges, api.Edge{A: v, B: w})
		}
	}
	return g
}

// petersen has ten vertices, with three neighbours each, and no ring of fewer than five.
func petersen() api.Graph {
	var ends []int
	for v := range 5 {
		ends = append(ends, v, (v+1)%5, v, v+5, v+5, (v+2)%5+5)
	}
	return made(10, ends...)
}

// flower is a stem from 0 to the number stem, which is even; a ring of that and the next
// vertices, odd in number; and a last vertex, joined with at. mate leaves 0 and the last one free.
func flower(stem, ring, at int) (api.Graph, []int) {
	n := stem + ring + 1
	ends := append(rowEnds(n-1), n-2, stem, at, n-1)
	mate := mateOf(n)
	for v := 1; v < n-1; v += 2 {
		mate[v], mate[v+1] = v+1, v
	}
	return made(n, ends...), mate
}

// nest is 0, and rungs 1 2, 3 4, and so on, each of which is joined with the one below it at
// both ends: odd rings within odd rings. A last vertex is joined with at. mate has the rungs.
func nest(rungs, at int) (api.Graph, []int) {
	n := 2*rungs + 2
	mate := mateOf(n)
	ends := []int{at, n - 1}
	for v := 1; v < n-1; v += 2 {
		ends = append(ends, v, v+1, max(v-2, 0), v, v-1, v+1)
		mate[v], mate[v+1] = v+1, v
	}
	return made(n, ends...), mate
}

// fours is rows of four, of which greedy.First takes the midst of each: the midst of the k-th
// is k and k + rows, and its ends are k + 2 rows and k + 3 rows.
func fours(rows int) api.Graph {
	var ends []int
	for k := range rows {
		ends = append(ends, k, k+rows, k, k+2*rows, k+rows, k+3*rows)
	}
	return made(4*rows, ends...)
}

// mostOfBoth is a graph of as many vertices and edges as may be: the row of all vertices, and edges of the first ones.
func mostOfBoth() api.Graph {
	g := api.Graph{N: api.MaxVertices}
	left := api.MaxEdges - (api.MaxVertices - 1)
	for a := range g.N - 1 {
		g.Edges = append(g.Edges, api.Edge{A: a, B: a + 1})
		for b := a + 2; b < g.N && left > 0; b++ {
			g.Edges = append(g.Edges, api.Edge{A: a, B: b})
			left--
		}
	}
	return g
}

// scattered is a graph of n vertices that hangs on the seed, of at most m edges.
func scattered(seed uint32, n, m int) api.Graph {
	next := func() int {
		seed = seed*1664525 + 1013904223
		return int(seed>>8) % n
	}
	chosen := map[api.Edge]bool{}
	var ends []int
	for range m {
		a, b := next(), next()
		if e := (api.Edge{A: min(a, b), B: max(a, b)}); a != b && !chosen[e] {
			chosen[e] = true
			ends = append(ends, a, b)
		}
	}
	return made(n, ends...)
}

// eachGraph calls look with every graph of n vertices.
func eachGraph(n int, look func(g api.Graph)) {
	edges := wholeOf(n).Edges
	for mask := range 1 << len(edges) {
		g := api.Graph{N: n}
		for i, e := range edges {
			if mask>>i&1 == 1 {
				g.Edges = append(g.Edges, e)
			}
		}
		look(g)
	}
}

// eachMatching is every matching of g.
func eachMatching(g api.Graph) [][]int {
	all := [][]int{mateOf(g.N)}
	for _, e := range g.Edges {
		for _, mate := range all {
			if mate[e.A] == -1 && mate[e.B] == -1 {
				more := slices.Clone(mate)
				more[e.A], more[e.B] = e.B, e.A
				all = append(all, more)
			}
		}
	}
	return all
}

// mateOf is the matching of n vertices of these edges.
func mateOf(n int, ends ...int) []int {
	mate := slices.Repeat([]int{-1}, n)
	for i := 0; i+1 < len(ends); i += 2 {
		mate[ends[i]], mate[ends[i+1]] = ends[i+1], ends[i]
	}
	return mate
}

// midst is the matching 1 2, 3 4, and so on, of n vertices: 0 is free, and the last one, if n is even.
func midst(n int) []int {
	mate := mateOf(n)
	for v := 1; v+1 < n; v += 2 {
		mate[v], mate[v+1] = v+1, v
	}
	return mate
}

// sizeOf is how many edges a right mate has.
func sizeOf(mate []int) int {
	ends := 0
	for _, w := range mate {
		if w != -1 {
			ends++
		}
	}
	return ends / 2
}

// labelled is n vertices, all with that label.
func labelled(n, label int) []int { return slices.Repeat([]int{label}, n) }

// joins are the joined vertices of a graph, each edge either way.
func joins(g api.Graph) map[api.Arc]bool {
	joined := map[api.Arc]bool{}
	for _, e := range g.Edges {
		joined[api.Arc{From: e.A, To: e.B}] = true
		joined[api.Arc{From: e.B, To: e.A}] = true
	}
	return joined
}

// isRight is the definition of chapter 8, word by word; g is right.
func isRight(g api.Graph, mate []int) bool {
	if len(mate) != g.N {
		return false
	}
	joined := joins(g)
	for v, w := range mate {
		if w != -1 && (!joined[api.Arc{From: v, To: w}] || mate[w] != v) {
			return false
		}
	}
	return true
}

// augments is the definition of chapter 9, word by word; mate is right for g.
func augments(g api.Graph, mate, path []int) bool {
	if len(path) < 2 || mate[path[0]] != -1 || mate[path[len(path)-1]] != -1 {
		return false
	}
	joined, seen := joins(g), map[int]bool{path[0]: true}
	for i := 1; i < len(path); i++ {
		v, w := path[i-1], path[i]
		if seen[w] || !joined[api.Arc{From: v, To: w}] || (mate[v] == w) != (i%2 == 0) {
			return false
		}
		seen[w] = true
	}
	return true
}

// reached are the vertices to which alternating paths of an even, and of an odd number of edges
// lead from free vertices: all of these paths are gone along, one by one.
type reached struct {
	near      [][]int
	mate      []int
	on        []bool
	even, odd []bool
}

func reachedOf(g api.Graph, mate []int) *reached {
	r := &reached{near: make([][]int, g.N), mate: mate, on: make([]bool, g.N), even: make([]bool, g.N), odd: make([]bool, g.N)}
	for _, e := range g.Edges {
		r.near[e.A] = append(r.near[e.A], e.B)
		r.near[e.B] = append(r.near[e.B], e.A)
	}
	for v, w := range mate {
		if w == -1 {
			r.goOn(v, 0)
		}
	}
	return r
}

// goOn comes to v by so many edges, and goes on along the matching, if that many are odd, and else not along it.
func (r *reached) goOn(v, edges int) {
	if r.on[v] {
		return
	}
	r.on[v] = true
	if edges%2 == 1 {
		r.odd[v] = true
		if r.mate[v] != -1 {
			r.goOn(r.mate[v], edges+1)
		}
	} else {
		r.even[v] = true
		for _, w := range r.near[v] {
			if r.mate[v] != w {
				r.goOn(w, edges+1)
			}
		}
	}
	r.on[v] = false
}

// label is the definition of the chapter, word by word.
func (r *reached) label(v int) int {
	switch {
	case r.even[v]:
		return api.Even
	case r.odd[v]:
		return api.Odd
	}
	return api.Out
}

// hasPath tells whether a path that augments is among all these.
func (r *reached) hasPath() bool {
	for v, w := range r.mate {
		if w == -1 && r.odd[v] {
			return true
		}
	}
	return false
}

// wrongGraphs are graphs that are not right, by what is wrong with them.
func wrongGraphs() map[string]api.Graph {
	pairs := func(n int, l ...api.Edge) api.Graph { return api.Graph{N: n, Edges: l} }
	tooMany := wholeOf(400)
	tooMany.Edges = append(tooMany.Edges, api.Edge{A: 398, B: 399})
	return map[string]api.Graph{
		"fewer than no vertices":     {N: -1},
		"far fewer than no vertices": pairs(math.MinInt, api.Edge{A: 0, B: 1}),
		"a vertex too many":          pairs(api.MaxVertices+1, api.Edge{A: 0, B: 1}),
		"far too many vertices":      pairs(math.MaxInt, api.Edge{A: 0, B: 1}),
		"an edge too many":           tooMany,
		"a loop":                     pairs(4, api.Edge{A: 0, B: 1}, api.Edge{A: 1, B: 1}),
		"a turned edge":              pairs(4, api.Edge{A: 0, B: 1}, api.Edge{A: 3, B: 2}),
		"an end beyond":              pairs(4, api.Edge{A: 0, B: 1}, api.Edge{A: 2, B: 4}),
		"an end far beyond":          pairs(4, api.Edge{A: 0, B: 1}, api.Edge{A: 2, B: math.MaxInt}),
		"an end below 0":             pairs(4, api.Edge{A: -1, B: 2}, api.Edge{A: 0, B: 1}),
		"an edge of no vertices":     pairs(0, api.Edge{A: 0, B: 1}),
		"edges that fall":            pairs(4, api.Edge{A: 1, B: 2}, api.Edge{A: 0, B: 1}),
		"an edge twice":              pairs(4, api.Edge{A: 0, B: 1}, api.Edge{A: 0, B: 1}),
	}
}

// P11.1: where no path augments

// wantLabels: no path augments, and these are the labels.
func wantLabels(t *testing.T, what string, g api.Graph, mate, want []int) {
	t.Helper()
	path, labels, err := single.Path(g, mate)
	if err != api.OK || len(path) != 0 || !slices.Equal(labels, want) {
		t.Errorf("%s: path %v, labels %v, error %d, want %v", what, path, labels, err, want)
	}
}

func TestLabels(t *testing.T) {
	for _, c := range []struct {
		what       string
		g          api.Graph
		mate, want []int
	}{
		{"no vertices", api.Graph{}, nil, nil},
		{"no vertices, empty lists", api.Graph{Edges: []api.Edge{}}, []int{}, nil},
		{"one vertex", made(1), mateOf(1), labelled(1, api.Even)},
		{"vertices without edges", made(5), mateOf(5), labelled(5, api.Even)},
		{"all have mates", made(2, 0, 1), mateOf(2, 0, 1), labelled(2, api.Out)},
		{"all of a ring have mates", ringOf(6), mateOf(6, 0, 5, 1, 2, 3, 4), labelled(6, api.Out)},
		{"all joined, all have mates", wholeOf(6), mateOf(6, 0, 5, 1, 2, 3, 4), labelled(6, api.Out)},
		{"an edge, and one alone", made(3, 0, 1), mateOf(3, 0, 1), []int{api.Out, api.Out, api.Even}},
		{"a row of three", rowOf(3), mateOf(3, 0, 1), []int{api.Even, api.Odd, api.Even}},
		{"a row of three, its other edge", rowOf(3), mateOf(3, 1, 2), []int{api.Even, api.Odd, api.Even}},
		{"a row of five, free in the middle", rowOf(5), mateOf(5, 0, 1, 3, 4), []int{api.Even, api.Odd, api.Even, api.Odd, api.Even}},
		{"a star", starOf(4), mateOf(4, 0, 2), []int{api.Odd, api.Even, api.Even, api.Even}},
		{"two middles", wholeSides(2, 4), mateOf(6, 0, 3, 1, 5), []int{api.Odd, api.Odd, api.Even, api.Even, api.Even, api.Even}},
		{"a triangle", ringOf(3), mateOf(3, 0, 2), labelled(3, api.Even)},
		{"a ring of nine", ringOf(9), midst(9), labelled(9, api.Even)},
		{"all joined, one free", wholeOf(7), mateOf(7, 0, 6, 1, 3, 2, 5), labelled(7, api.Even)},
		{"two triangles with one vertex in common", made(5, 0, 1, 0, 2, 1, 2, 2, 3, 2, 4, 3, 4), mateOf(5, 0, 1, 3, 4), labelled(5, api.Even)},
		{"two triangles, the free one not in common", made(5, 0, 1, 0, 2, 1, 2, 2, 3, 2, 4, 3, 4), mateOf(5, 1, 2, 3, 4), labelled(5, api.Even)},
		{"a triangle that hangs on one who has a mate", made(5, 0, 1, 0, 2, 1, 2, 0, 3, 3, 4), mateOf(5, 1, 2, 3, 4), []int{api.Even, api.Even, api.Even, api.Odd, api.Even}},
		{"three pieces", made(8, 0, 1, 2, 3, 2, 4, 3, 4, 5, 6, 5, 7), mateOf(8, 0, 1, 2, 4, 5, 7), []int{api.Out, api.Out, api.Even, api.Even, api.Even, api.Odd, api.Even, api.Even}},
		{"behind one that is Odd all may have mates", made(5, 0, 1, 0, 2, 0, 3, 3, 4), mateOf(5, 0, 1, 3, 4), []int{api.Odd, api.Even, api.Even, api.Out, api.Out}},
		{"an odd ring, whole, behind one that is Odd", made(7, 0, 1, 0, 2, 0, 3, 3, 4, 3, 5, 4, 5, 5, 6), mateOf(7, 0, 1, 3, 4, 5, 6), []int{api.Odd, api.Even, api.Even, api.Out, api.Out, api.Out, api.Out}},
	} {
		wantLabels(t, c.what, c.g, c.mate, c.want)
	}
}

func TestLabelsOfFlowers(t *testing.T) {
	for _, stem := range []int{2, 4, 8} {
		for _, ring := range []int{3, 5, 7, 9} {
			// The last vertex is joined with one of the stem that is Odd, and so is of no use.
			for at := 1; at < stem; at += 2 {
				g, mate := flower(stem, ring, at)
				want := labelled(g.N, api.Even)
				for v := 1; v < stem; v += 2 {
					want[v] = api.Odd
				}
				wantLabels(t, "a flower", g, mate, want)
			}
		}
	}
}

func TestLabelsOfNests(t *testing.T) {
	for rungs := 1; rungs < 30; rungs++ {
		g, mate := nest(rungs, 2*rungs)
		g.N--
		g.Edges = slices.DeleteFunc(g.Edges, func(e api.Edge) bool { return e.B == g.N })
		wantLabels(t, "a nest", g, mate[:g.N], labelled(g.N, api.Even))
	}
}

// P11.1: where one does

// wantPath: a path that augments is told, and nothing else.
func wantPath(t *testing.T, what string, g api.Graph, mate []int) []int {
	t.Helper()
	path, labels, err := single.Path(g, mate)
	if err != api.OK || len(labels) != 0 || !augments(g, mate, path) {
		t.Errorf("%s: path %v, labels %v, error %d", what, path, labels, err)
	}
	return path
}

func TestPath(t *testing.T) {
	for _, c := range []struct {
		what string
		g    api.Graph
		mate []int
	}{
		{"one edge, none matched", made(2, 0, 1), mateOf(2)},
		{"a star, none matched", starOf(5), mateOf(5)},
		{"all joined, none matched", wholeOf(5), mateOf(5)},
		{"all joined, two free", wholeOf(6), mateOf(6, 0, 4, 2, 3)},
		{"a row of four", rowOf(4), midst(4)},
		{"a row of four, its ends in the midst", made(4, 0, 3, 0, 1, 2, 3), mateOf(4, 0, 3)},
		{"a row of ten", rowOf(10), midst(10)},
		{"a ring of four, two edges left", ringOf(4), mateOf(4, 1, 2)},
		{"two triangles, joined, free at the edge", made(6, 0, 1, 0, 2, 1, 2, 2, 3, 3, 4, 3, 5, 4, 5), mateOf(6, 0, 1, 4, 5)},
		{"two triangles, joined, free afar", made(6, 0, 1, 0, 2, 1, 2, 2, 3, 3, 4, 3, 5, 4, 5), mateOf(6, 1, 2, 3, 4)},
		{"two triangles, joined by a row", made(8, 0, 1, 0, 2, 1, 2, 2, 6, 6, 7, 7, 3, 3, 4, 3, 5, 4, 5), mateOf(8, 1, 2, 6, 7, 3, 4)},
		{"two rings of five, joined afar from what is free", made(10, 0, 1, 1, 2, 2, 3, 3, 4, 4, 0, 5, 6, 6, 7, 7, 8, 8, 9, 9, 5, 3, 7), mateOf(10, 1, 2, 3, 4, 6, 7, 8, 9)},
		{"a triangle on either side of a row", made(7, 0, 1, 1, 2, 0, 2, 2, 3, 3, 4, 4, 5, 5, 6, 4, 6, 1, 3), mateOf(7, 1, 2, 5, 6)},
		{"only the last of three pieces", made(9, 0, 1, 2, 3, 2, 4, 3, 4, 5, 6, 6, 7, 7, 8), mateOf(9, 0, 1, 2, 4, 6, 7)},
		{"petersen's, as few as cannot be added to", petersen(), mateOf(10, 0, 1, 2, 3, 6, 8, 7, 9)},
	} {
		wantPath(t, c.what, c.g, c.mate)
	}
}

func TestPathThroughFlowers(t *testing.T) {
	for _, stem := range []int{0, 2, 4, 8} {
		for _, ring := range []int{3, 5, 7, 9} {
			for at := stem; at < stem+ring; at++ {
				g, mate := flower(stem, ring, at)
				path := wantPath(t, "a flower", g, mate)
				// The stem, the part of the ring that is odd in number up to at, and the last one.
				part := at - stem + 1
				if part%2 == 0 {
					part = ring + 2 - part
				}
				if len(path) != stem+part+1 {
					t.Errorf("a flower of %d and %d, at %d: %v", stem, ring, at, path)
				}
			}
		}
	}
}

func TestPathOutOfNests(t *testing.T) {
	for rungs := 1; rungs < 30; rungs++ {
		for at := range 2*rungs + 1 {
			g, mate := nest(rungs, at)
			wantPath(t, "a nest", g, mate)
		}
	}
	g, mate := nest(api.MaxVertices/2-1, api.MaxVertices-3)
	wantPath(t, "the greatest nest", g, mate)
}

func TestLongPaths(t *testing.T) {
	n := api.MaxVertices
	if path := wantPath(t, "the longest row", rowOf(n), midst(n)); len(path) != n {
		t.Errorf("the longest row: a path of %d", len(path))
	}
	wantPath(t, "the longest ring", ringOf(n), midst(n))
	wantLabels(t, "the longest odd ring", ringOf(n-1), midst(n-1), labelled(n-1, api.Even))
	for _, at := range []int{n - 2, n - 3, n / 2, n/2 + 1} {
		g, mate := flower(0, n-1, at)
		wantPath(t, "the longest ring of a flower", g, mate)
		g, mate = flower(n-4, 3, max(at, n-4))
		wantPath(t, "the longest stem of a flower", g, mate)
	}
	g := mostOfBoth()
	wantPath(t, "the most of both", g, midst(n))
	wantLabels(t, "the most of both, all matched", g, greedy.First(g), labelled(n, api.Out))
	wantLabels(t, "as many vertices as may be", made(n), mateOf(n), labelled(n, api.Even))
}

// P11.1, held against the definitions

// checkPath tells whether there was a path.
func checkPath(t *testing.T, g api.Graph, mate []int) bool {
	t.Helper()
	path, labels, err := single.Path(g, mate)
	r := reachedOf(g, mate)
	if err != api.OK || r.hasPath() != (len(path) > 0) {
		t.Fatalf("Path(%v, %v): path %v, error %d", g, mate, path, err)
	}
	if len(path) > 0 {
		if len(labels) != 0 || !augments(g, mate, path) {
			t.Fatalf("Path(%v, %v): path %v, labels %v", g, mate, path, labels)
		}
		return true
	}
	if len(labels) != g.N {
		t.Fatalf("Path(%v, %v): labels %v", g, mate, labels)
	}
	for v, label := range labels {
		if label != r.label(v) {
			t.Fatalf("Path(%v, %v): labels %v: that of %d", g, mate, labels, v)
		}
	}
	return false
}

// What follows: where no path augments the matching is largest; and the other way round.
func TestPathOfAllSmallGraphs(t *testing.T) {
	for n := range 7 {
		eachGraph(n, func(g api.Graph) {
			all := eachMatching(g)
			largest := 0
			for _, mate := range all {
				largest = max(largest, sizeOf(mate))
			}
			for _, mate := range all {
				if there := checkPath(t, g, mate); there != (sizeOf(mate) < largest) {
					t.Fatalf("Path(%v, %v): a path: %v", g, mate, there)
				}
			}
		})
	}
}

func TestPathOfSomeGraphs(t *testing.T) {
	for seed := range uint32(300) {
		n := 7 + int(seed)%5
		g := scattered(seed, n, n+int(seed/5)%n)
		mate := mateOf(n)
		for checkPath(t, g, mate) {
			path, _, _ := single.Path(g, mate)
			mate = flipped(mate, path)
		}
	}
}

// flipped is mate with the edges of a path that augments turned about.
func flipped(mate, path []int) []int {
	larger := slices.Clone(mate)
	for i := 0; i+1 < len(path); i += 2 {
		larger[path[i]], larger[path[i+1]] = path[i+1], path[i]
	}
	return larger
}

// P11.1: what is refused

func TestPathOfAWrongGraph(t *testing.T) {
	for what, g := range wrongGraphs() {
		lists := [][]int{nil, {}, {1, 0}, mateOf(4), {1, 0, -1, -1}, {7, 7, 7, 7}}
		if g.N >= 0 && g.N <= api.MaxVertices+1 {
			lists = append(lists, mateOf(g.N))
		}
		for _, mate := range lists {
			if path, labels, err := single.Path(g, mate); err != api.ErrGraph || len(path) != 0 || len(labels) != 0 {
				t.Errorf("%s: path %v, %d labels, error %d", what, path, len(labels), err)
			}
		}
	}
}

func TestPathOfAWrongMatching(t *testing.T) {
	for what, mate := range map[string][]int{
		"nothing":                       nil,
		"an empty list":                 {},
		"one too few":                   {-1, -1, -1, -1},
		"one too few, all matched":      {1, 0, 3, 2},
		"one too many":                  {-1, -1, -1, -1, -1, -1},
		"a pair too many":               {1, 0, 3, 2, -1, 6, 5},
		"mates that are not joined":     {-1, -1, 4, -1, 2},
		"a mate without a mate":         {-1, -1, -1, 4, -1},
		"a mate whose mate is another":  {-1, -1, 3, 2, 3},
		"two that have one mate":        {1, 0, 1, -1, -1},
		"mates that go round":           {1, 2, 3, 4, 0},
		"one that is its own mate":      {-1, -1, -1, -1, 4},
		"a mate beyond":                 {-1, -1, -1, -1, 5},
		"a mate far beyond":             {-1, -1, -1, -1, math.MaxInt},
		"a mate below -1":               {-1, -1, -1, -1, -2},
		"a mate far below -1":           {math.MinInt, -1, -1, -1, -1},
		"no mate of one who has a mate": {1, -1, -1, -1, -1},
	} {
		if path, labels, err := single.Path(rowOf(5), mate); err != api.ErrMatching || len(path) != 0 || len(labels) != 0 {
			t.Errorf("%s: path %v, labels %v, error %d", what, path, labels, err)
		}
	}
	for _, mate := range [][]int{{-1}, {0}, {1, 0}} {
		if path, labels, err := single.Path(api.Graph{}, mate); err != api.ErrMatching || len(path) != 0 || len(labels) != 0 {
			t.Errorf("no vertices, %v: path %v, labels %v, error %d", mate, path, labels, err)
		}
	}
}

// P11.2

// wantLargest: a right matching of that size is told, by searches each of which but the last
// makes that of greedy.First larger by one, and no more looks than may be, nor fewer than must be.
func wantLargest(t *testing.T, what string, g api.Graph, size int) {
	t.Helper()
	mate, effort, err := single.Largest(g)
	if err != api.OK || !isRight(g, mate) || sizeOf(mate) != size {
		t.Fatalf("%s: %d edges, error %d, want %d", what, sizeOf(mate), err, size)
	}
	if effort.Rounds != size-sizeOf(greedy.First(g))+1 || effort.Rounds > g.N+1 {
		t.Fatalf("%s: %d rounds", what, effort.Rounds)
	}
	if effort.Looks > 8*len(g.Edges) || effort.Rounds > 1 && effort.Looks == 0 {
		t.Fatalf("%s: %d looks, %d edges, %d rounds", what, effort.Looks, len(g.Edges), effort.Rounds)
	}
	wantLooks(t, what, g, mate, effort.Looks)
}

// wantLooks: the last search finds no path, and sees so only if it looks at every edge that has an end that is Even.
func wantLooks(t *testing.T, what string, g api.Graph, mate []int, looks int) {
	t.Helper()
	path, labels, err := single.Path(g, mate)
	if err != api.OK || len(path) != 0 || len(labels) != g.N {
		t.Fatalf("%s: of the largest a path %v, error %d", what, path, err)
	}
	atEven := 0
	for _, e := range g.Edges {
		if labels[e.A] == api.Even || labels[e.B] == api.Even {
			atEven++
		}
	}
	if looks < atEven {
		t.Fatalf("%s: %d looks, and %d edges must be looked at", what, looks, atEven)
	}
}

func TestLargest(t *testing.T) {
	for _, c := range []struct {
		what string
		g    api.Graph
		size int
	}{
		{"no vertices", api.Graph{}, 0},
		{"no vertices, an empty list", api.Graph{Edges: []api.Edge{}}, 0},
		{"one vertex", made(1), 0},
		{"vertices without edges", made(6), 0},
		{"one edge", made(2, 0, 1), 1},
		{"one edge, and others alone", made(5, 1, 3), 1},
		{"the chapter's example", ringOf(3), 1},
		{"a star", starOf(6), 1},
		{"two triangles, joined", made(6, 0, 1, 0, 2, 1, 2, 2, 3, 3, 4, 3, 5, 4, 5), 3},
		{"two triangles with one vertex in common", made(5, 0, 1, 0, 2, 1, 2, 2, 3, 2, 4, 3, 4), 2},
		{"three triangles on one vertex", made(10, 0, 1, 1, 2, 0, 2, 3, 4, 4, 5, 3, 5, 6, 7, 7, 8, 6, 8, 9, 0, 9, 3, 9, 6), 4},
		{"petersen's", petersen(), 5},
		{"three sides of one, one, and eight", made(10, 0, 1, 0, 2, 0, 3, 0, 4, 1, 5, 1, 6, 1, 7, 1, 8, 1, 9), 2},
		{"three pieces", made(11, 0, 1, 1, 2, 2, 3, 4, 5, 4, 6, 5, 6, 7, 8, 7, 9, 7, 10), 4},
		{"a row that is begun in its midst", fours(1), 2},
		{"seven rows that are begun in their midst", fours(7), 14},
	} {
		wantLargest(t, c.what, c.g, c.size)
	}
	for n := 2; n < 20; n++ {
		wantLargest(t, "a row", rowOf(n), n/2)
		wantLargest(t, "all joined", wholeOf(n), n/2)
		wantLargest(t, "a ring", ringOf(n+1), (n+1)/2)
		for a := range n {
			wantLargest(t, "two whole sides", wholeSides(a, n-a), min(a, n-a))
		}
	}
}

func TestLargestOfFlowersAndNests(t *testing.T) {
	for k := 1; k < 12; k++ {
		for at := range 2*k + 3 {
			g, _ := flower(2, 2*k+1, at)
			size := k + 1
			if at != 1 {
				size++
			}
			wantLargest(t, "a flower", g, size)
		}
		for at := range 2*k + 1 {
			g, _ := nest(k, at)
			wantLargest(t, "a nest", g, k+1)
		}
	}
}

func TestLargestOfAllSmallGraphs(t *testing.T) {
	for n := range 7 {
		eachGraph(n, func(g api.Graph) {
			largest := 0
			for _, mate := range eachMatching(g) {
				largest = max(largest, sizeOf(mate))
			}
			wantLargest(t, "a small graph", g, largest)
		})
	}
}

// oddPieces is how many pieces of an odd number of vertices g has without those so labelled.
func oddPieces(g api.Graph, labels []int, without int) int {
	top := make([]int, g.N)
	for v := range top {
		top[v] = v
	}
	find := func(v int) int {
		for top[v] != v {
			v = top[v]
		}
		return v
	}
	for _, e := range g.Edges {
		if labels[e.A] != without && labels[e.B] != without {
			top[find(e.A)] = find(e.B)
		}
	}
	odd := make([]int, g.N)
	for v := range top {
		if labels[v] != without {
			odd[find(v)] ^= 1
		}
	}
	return sum(odd)
}

func sum(l []int) int {
	total := 0
	for _, x := range l {
		total += x
	}
	return total
}

// Each odd piece that is left without the vertices that are Odd has one that is free, or whose mate is one of these:
// where there are so many more of the pieces as are free, no matching is larger.
func TestLargestOfGreaterGraphs(t *testing.T) {
	for seed := range uint32(500) {
		n := 2 + int(seed)%90
		g := scattered(seed, n, n/2+int(seed*7)%(2*n))
		mate, _, _ := single.Largest(g)
		_, labels, err := single.Path(g, mate)
		if err != api.OK || len(labels) != n {
			t.Fatalf("the seed %d: Path of the largest: %d labels, error %d", seed, len(labels), err)
		}
		odd := 0
		for _, label := range labels {
			if label == api.Odd {
				odd++
			}
		}
		if free := n - 2*sizeOf(mate); free != oddPieces(g, labels, api.Odd)-odd {
			t.Fatalf("the seed %d: %d are free", seed, free)
		}
		wantLargest(t, "a greater graph", g, sizeOf(mate))
	}
}

func TestLargestOfTheMost(t *testing.T) {
	n := api.MaxVertices
	nested, _ := nest(n/2-1, n-3)
	flowered, _ := flower(n/2, n/2-1, n-3)
	for _, c := range []struct {
		what string
		g    api.Graph
		size int
	}{
		{"no edges", made(n), 0},
		{"the longest row", rowOf(n), n / 2},
		{"the longest ring", ringOf(n), n / 2},
		{"the longest odd ring", ringOf(n - 1), n/2 - 1},
		{"the greatest star", starOf(n), 1},
		{"the greatest nest", nested, n / 2},
		{"the greatest flower", flowered, n / 2},
		{"all joined that could be", wholeOf(362), 181},
		{"the most of both", mostOfBoth(), n / 2},
		{"many for few", wholeSides(16, n-16), 16},
		// Were the looks of all searches told, and not those of one, there would be too many.
		{"as many searches as a greedy beginning leaves", fours(n / 4), n / 2},
	} {
		wantLargest(t, c.what, c.g, c.size)
	}
}

func TestLargestOfAWrongGraph(t *testing.T) {
	for what, g := range wrongGraphs() {
		if mate, effort, err := single.Largest(g); err != api.ErrGraph || len(mate) != 0 || effort != (api.Effort{}) {
			t.Errorf("%s: %d mates, %+v, error %d", what, len(mate), effort, err)
		}
	}
}

// R2: what is answered hangs on what is asked alone.
func TestTheSameAgain(t *testing.T) {
	for seed := range uint32(40) {
		g := scattered(seed, 30, 45)
		mate, effort, _ := single.Largest(g)
		path, labels, _ := single.Path(g, mateOf(30))
		_, last, _ := single.Path(g, mate)
		again, sameEffort, _ := single.Largest(g)
		samePath, sameLabels, _ := single.Path(g, mateOf(30))
		_, sameLast, _ := single.Path(g, mate)
		if !slices.Equal(mate, again) || effort != sameEffort || !slices.Equal(path, samePath) || !slices.Equal(labels, sameLabels) || !slices.Equal(last, sameLast) {
			t.Errorf("the seed %d: not the same again", seed)
		}
	}
}

// R3: what is handed in, with the room behind its end, stays as it was and is not kept.

func TestWhatIsHandedInStays(t *testing.T) {
	g, mate := flower(2, 5, 4)
	edges := append(slices.Clone(g.Edges), api.Edge{A: 9, B: 8}, api.Edge{A: 7, B: 7})
	keptEdges := slices.Clone(edges)
	list := append(slices.Clone(mate), 77, -3)
	for count := range len(edges) + 1 {
		h := api.Graph{N: g.N, Edges: edges[:count]}
		single.Largest(h)
		for n := range len(list) + 1 {
			kept := slices.Clone(list)
			single.Path(h, list[:n])
			if !slices.Equal(list, kept) {
				t.Fatalf("mates handed in, then %v", list)
			}
		}
	}
	if !slices.Equal(edges, keptEdges) {
		t.Errorf("edges handed in, then %v", edges)
	}
}

// spoil writes over a list and the room behind its end.
func spoil[T any](l []T, by T) {
	l = l[:cap(l)]
	for i := range l {
		l[i] = by
	}
}

func TestWhatIsToldIsNew(t *testing.T) {
	plain, plainMate := flower(2, 5, 4)
	for _, mate := range [][]int{plainMate, mateOf(8, 0, 1, 2, 3, 4, 7, 5, 6)} {
		g, given := api.Graph{N: plain.N, Edges: slices.Clone(plain.Edges)}, slices.Clone(mate)
		path, labels, _ := single.Path(g, given)
		largest, _, _ := single.Largest(g)
		keptPath, keptLabels, keptLargest := slices.Clone(path), slices.Clone(labels), slices.Clone(largest)
		spoil(path, -7)
		spoil(labels, -7)
		spoil(largest, -7)
		if !slices.Equal(g.Edges, plain.Edges) || !slices.Equal(given, mate) {
			t.Errorf("answers written into, then %v, %v", g, given)
		}
		path, labels, _ = single.Path(g, given)
		largest, _, _ = single.Largest(g)
		spoil(g.Edges, api.Edge{A: -7, B: -7})
		spoil(given, -7)
		if !slices.Equal(path, keptPath) || !slices.Equal(labels, keptLabels) || !slices.Equal(largest, keptLargest) {
			t.Errorf("what was handed in written into, then %v, %v, %v", path, labels, largest)
		}
	}
}
