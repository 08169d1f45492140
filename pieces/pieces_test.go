package pieces_test

import (
	"math"
	"slices"
	"testing"

	"garland/api"
	"garland/pieces"
)

// graphOf: 3, 0, 1, 1, 2 is the graph of three vertices and the edges 0 1 and 1 2.
func graphOf(n int, ends ...int) api.Graph {
	g := api.Graph{N: n}
	for i := 0; i+1 < len(ends); i += 2 {
		g.Edges = append(g.Edges, api.Edge{A: ends[i], B: ends[i+1]})
	}
	return g
}

// count is the numbers from 0 to n - 1.
func count(n int) []int {
	l := make([]int, n)
	for i := range l {
		l[i] = i
	}
	return l
}

func same(a, b [][]int) bool {
	return slices.EqualFunc(a, b, func(x, y []int) bool { return slices.Equal(x, y) })
}

func oddOf(l [][]int) int {
	odd := 0
	for _, piece := range l {
		if len(piece)%2 != 0 {
			odd++
		}
	}
	return odd
}

// wantPieces: Without, Odd of the same, and All, if nothing is out.
func wantPieces(t *testing.T, what string, g api.Graph, out []int, want [][]int) {
	t.Helper()
	if got := pieces.Without(g, out); !same(got, want) {
		t.Errorf("%s: Without: %v, want %v", what, got, want)
	}
	if got := pieces.Odd(g, out); got != oddOf(want) {
		t.Errorf("%s: Odd: %d, want %d", what, got, oddOf(want))
	}
	if len(out) > 0 {
		return
	}
	if got := pieces.All(g); !same(got, want) {
		t.Errorf("%s: All: %v, want %v", what, got, want)
	}
}

// P3.1

func TestAll(t *testing.T) {
	for _, c := range []struct {
		what string
		g    api.Graph
		want [][]int
	}{
		{"the zero value", api.Graph{}, nil},
		{"no vertices", api.Graph{Edges: []api.Edge{}}, nil},
		{"one vertex", graphOf(1), [][]int{{0}}},
		{"vertices without edges", graphOf(3), [][]int{{0}, {1}, {2}}},
		{"an edge", graphOf(2, 0, 1), [][]int{{0, 1}}},
		{"a path of three, and one alone", graphOf(4, 0, 1, 1, 2), [][]int{{0, 1, 2}, {3}}},
		{"one alone, and a path of three", graphOf(4, 1, 2, 2, 3), [][]int{{0}, {1, 2, 3}}},
		{"a path that goes to and fro", graphOf(5, 0, 4, 1, 3, 1, 4, 2, 3), [][]int{{0, 1, 2, 3, 4}}},
		{"pieces within pieces", graphOf(6, 0, 5, 1, 4, 2, 3), [][]int{{0, 5}, {1, 4}, {2, 3}}},
		{"pieces that cross", graphOf(6, 0, 2, 1, 3, 2, 4, 3, 5), [][]int{{0, 2, 4}, {1, 3, 5}}},
		{"joined at the last", graphOf(5, 0, 4, 1, 4, 2, 4, 3, 4), [][]int{{0, 1, 2, 3, 4}}},
		{"a triangle and an edge", graphOf(5, 0, 2, 0, 4, 1, 3, 2, 4), [][]int{{0, 2, 4}, {1, 3}}},
	} {
		wantPieces(t, c.what, c.g, nil, c.want)
		wantPieces(t, c.what, c.g, []int{}, c.want)
	}
}

func TestWithout(t *testing.T) {
	path := graphOf(5, 0, 1, 1, 2, 2, 3, 3, 4)
	star := graphOf(4, 0, 1, 0, 2, 0, 3)
	for _, c := range []struct {
		what string
		g    api.Graph
		out  []int
		want [][]int
	}{
		{"the middle of a path", path, []int{2}, [][]int{{0, 1}, {3, 4}}},
		{"an end of a path", path, []int{0}, [][]int{{1, 2, 3, 4}}},
		{"the other end of a path", path, []int{4}, [][]int{{0, 1, 2, 3}}},
		{"every other one of a path", path, []int{3, 1}, [][]int{{0}, {2}, {4}}},
		{"the middle of a star", star, []int{0}, [][]int{{1}, {2}, {3}}},
		{"leaves of a star", star, []int{3, 1}, [][]int{{0, 2}}},
		{"all but one", path, []int{4, 3, 1, 0}, [][]int{{2}}},
		{"all", path, []int{0, 1, 2, 3, 4}, nil},
		{"all, falling", path, []int{4, 3, 2, 1, 0}, nil},
		{"all, some of them twice", path, []int{4, 0, 3, 0, 2, 1, 4, 0}, nil},
		{"one twice", path, []int{2, 2}, [][]int{{0, 1}, {3, 4}}},
		{"one twice, not in a row", path, []int{2, 4, 2}, [][]int{{0, 1}, {3}}},
		{"one below 0", path, []int{-1}, [][]int{{0, 1, 2, 3, 4}}},
		{"one beyond", path, []int{5}, [][]int{{0, 1, 2, 3, 4}}},
		{"far off", path, []int{math.MinInt, 64, math.MaxInt, api.MaxVertices, -64}, [][]int{{0, 1, 2, 3, 4}}},
		{"some that are none", path, []int{-1, 2, 5, math.MaxInt, math.MinInt}, [][]int{{0, 1}, {3, 4}}},
		{"of no vertices", api.Graph{}, []int{0, 1, -1}, nil},
		{"of vertices without edges", graphOf(4), []int{1, 2}, [][]int{{0}, {3}}},
	} {
		wantPieces(t, c.what, c.g, c.out, c.want)
	}
}

func TestOdd(t *testing.T) {
	for _, c := range []struct {
		what string
		g    api.Graph
		out  []int
		want int
	}{
		{"no vertices", api.Graph{}, nil, 0},
		{"vertices without edges", graphOf(5), nil, 5},
		{"an even piece", graphOf(4, 0, 1, 1, 2, 2, 3), nil, 0},
		{"an odd piece", graphOf(3, 0, 1, 1, 2), []int{}, 1},
		{"odd and even ones", graphOf(7, 0, 1, 1, 2, 3, 4, 5, 6), nil, 1},
		{"even ones alone", graphOf(6, 0, 1, 2, 3, 4, 5), nil, 0},
		{"an even one without one", graphOf(4, 0, 1, 1, 2, 2, 3), []int{0}, 1},
		{"a star without its middle", graphOf(4, 0, 1, 0, 2, 0, 3), []int{0}, 3},
		{"a path without its middle", graphOf(5, 0, 1, 1, 2, 2, 3, 3, 4), []int{2, 2, 9}, 0},
		{"all out", graphOf(3, 0, 1, 1, 2), []int{0, 1, 2}, 0},
	} {
		if got := pieces.Odd(c.g, c.out); got != c.want {
			t.Errorf("%s: Odd: %d, want %d", c.what, got, c.want)
		}
	}
}

func TestSame(t *testing.T) {
	g := graphOf(7, 0, 4, 1, 2, 2, 5, 4, 6) // 0 4 6; 1 2 5; 3
	piece := []int{0, 1, 1, 3, 0, 1, 0}
	for a := range g.N {
		for b := range g.N {
			if got := pieces.Same(g, a, b); got != (piece[a] == piece[b]) {
				t.Errorf("Same(%d, %d): %v", a, b, got)
			}
		}
		for _, v := range []int{-1, 7, 8, 64, math.MinInt, math.MaxInt} {
			if pieces.Same(g, a, v) || pieces.Same(g, v, a) || pieces.Same(g, v, v) {
				t.Errorf("Same of %d and %d, which is not there", a, v)
			}
		}
	}
	for _, v := range []int{0, 1, -1} {
		if pieces.Same(api.Graph{}, v, v) || pieces.Same(api.Graph{}, 0, v) {
			t.Errorf("Same of %d, of no vertices", v)
		}
	}
}

func TestOfTheMostVertices(t *testing.T) {
	bare := api.Graph{N: api.MaxVertices}
	alone := make([][]int, api.MaxVertices)
	for v := range alone {
		alone[v] = []int{v}
	}
	last := api.MaxVertices - 1
	wantPieces(t, "no edges", bare, nil, alone)
	wantPieces(t, "no edges, the last out", bare, []int{last}, alone[:last])
	wantPieces(t, "no edges, all out", bare, count(api.MaxVertices), nil)
	if !pieces.Same(bare, last, last) || pieces.Same(bare, last, 0) || pieces.Same(bare, api.MaxVertices, api.MaxVertices) {
		t.Error("Same of the last vertex")
	}

	path := api.Graph{N: api.MaxVertices}
	for v := range last {
		path.Edges = append(path.Edges, api.Edge{A: v, B: v + 1})
	}
	all := count(api.MaxVertices)
	wantPieces(t, "a path of all", path, nil, [][]int{all})
	wantPieces(t, "a path of all, one out", path, []int{2000}, [][]int{all[:2000], all[2001:]})
	if !pieces.Same(path, last, 0) || !pieces.Same(path, 0, last) {
		t.Error("Same of the ends of a path of all")
	}
}

func TestOfTheMostEdges(t *testing.T) {
	g := api.Graph{N: 600}
	for a := 0; len(g.Edges) < api.MaxEdges; a++ {
		for b := a + 1; b < 400 && len(g.Edges) < api.MaxEdges; b++ {
			g.Edges = append(g.Edges, api.Edge{A: a, B: b})
		}
	}
	want := [][]int{count(400)}
	for v := 400; v < 600; v++ {
		want = append(want, []int{v})
	}
	wantPieces(t, "as many edges as may be", g, nil, want)
	g.Edges = append(g.Edges, api.Edge{A: 598, B: 599})
	wantPieces(t, "an edge too many", g, nil, nil)
}

func TestOfAWrongGraph(t *testing.T) {
	for what, g := range map[string]api.Graph{
		"fewer than no vertices":     {N: -1},
		"far fewer than no vertices": {N: math.MinInt},
		"a vertex too many":          {N: api.MaxVertices + 1},
		"far too many vertices":      {N: math.MaxInt, Edges: []api.Edge{{A: 0, B: 1}}},
		"a loop":                     graphOf(4, 0, 1, 1, 1),
		"a turned edge":              graphOf(4, 0, 1, 3, 2),
		"an end beyond":              graphOf(4, 0, 1, 2, 4),
		"an end far beyond":          graphOf(4, 0, 1, 2, math.MaxInt),
		"an end below 0":             graphOf(4, -1, 2, 0, 1),
		"an edge of no vertices":     graphOf(0, 0, 1),
		"edges that fall":            graphOf(4, 1, 2, 0, 1),
		"an edge twice":              graphOf(4, 0, 1, 0, 1),
	} {
		for _, out := range [][]int{nil, {}, {0}, {3, 9, -1}} {
			wantPieces(t, what, g, out, nil)
		}
		for _, v := range []int{0, 1, 3, -1, math.MaxInt} {
			if pieces.Same(g, 0, v) || pieces.Same(g, v, 0) || pieces.Same(g, v, v) {
				t.Errorf("%s: Same of %d", what, v)
			}
		}
	}
}

// R3: what is handed in, with the room behind its end, stays as it was and is not kept.

func TestWhatIsHandedInStays(t *testing.T) {
	kept := graphOf(6, 0, 4, 1, 2, 2, 5, 9, 8, 7, 7)
	edges := slices.Clone(kept.Edges)
	g := api.Graph{N: 6, Edges: edges[:3]}
	keptOut := []int{5, 0, 5, -3, 77, 2, 1}
	room := slices.Clone(keptOut)
	pieces.All(g)
	pieces.Same(g, 0, 4)
	for n := range room {
		pieces.Without(g, room[:n])
		pieces.Odd(g, room[:n])
	}
	if !slices.Equal(edges, kept.Edges) || !slices.Equal(room, keptOut) {
		t.Errorf("handed in as %v and %v, then %v and %v", kept.Edges, keptOut, edges, room)
	}
}

func TestWhatIsHandedOutIsNew(t *testing.T) {
	g := graphOf(7, 0, 4, 1, 2, 2, 5, 4, 6)
	want := [][]int{{0, 4, 6}, {1, 2, 5}, {3}}
	for i := range want {
		got := pieces.All(g)
		spoil(got[i])
		for j := range want {
			if j != i && !slices.Equal(got[j], want[j]) {
				t.Errorf("piece %d, piece %d written into: %v", j, i, got[j])
			}
		}
	}
	wantPieces(t, "asked again, its answers written into", g, nil, want)

	out := []int{4, 2}
	got := pieces.Without(g, out)
	spoil(out)
	g.Edges[0] = api.Edge{A: 0, B: 1}
	if !same(got, [][]int{{0}, {1}, {3}, {5}, {6}}) {
		t.Errorf("what was handed in written into: %v", got)
	}
}

// spoil writes over a list and the room behind its end.
func spoil(l []int) {
	l = l[:cap(l)]
	for i := range l {
		l[i] = -7
	}
}

// reach tells who comes to whom along edges without the vertices of out: the definition of a piece.
func reach(g api.Graph, out []int) [][]bool {
	way := make([][]bool, g.N)
	for v := range way {
		way[v] = make([]bool, g.N)
		way[v][v] = !slices.Contains(out, v)
	}
	for _, e := range g.Edges {
		joined := way[e.A][e.A] && way[e.B][e.B]
		way[e.A][e.B], way[e.B][e.A] = joined, joined
	}
	for m := range way {
		for a := range way {
			for b := range way {
				way[a][b] = way[a][b] || way[a][m] && way[m][b]
			}
		}
	}
	return way
}

// piecesOf reads the pieces from who comes to whom.
func piecesOf(way [][]bool) [][]int {
	var list [][]int
	for v := range way {
		var piece []int
		for w, yes := range way[v] {
			if yes {
				piece = append(piece, w)
			}
		}
		if len(piece) > 0 && piece[0] == v {
			list = append(list, piece)
		}
	}
	return list
}

// chosen is those of l whose bits are in mask.
func chosen[T any](l []T, mask int) []T {
	var some []T
	for i, x := range l {
		if mask>>i&1 == 1 {
			some = append(some, x)
		}
	}
	return some
}

func TestOfAllSmallGraphs(t *testing.T) {
	for n := range 6 {
		var edges []api.Edge
		for a := range n {
			for b := a + 1; b < n; b++ {
				edges = append(edges, api.Edge{A: a, B: b})
			}
		}
		for mask := range 1 << len(edges) {
			checkAllOf(t, api.Graph{N: n, Edges: chosen(edges, mask)})
			if t.Failed() {
				return
			}
		}
	}
}

// checkAllOf holds every question of g against the definition.
func checkAllOf(t *testing.T, g api.Graph) {
	t.Helper()
	for mask := range 1 << g.N {
		out := chosen(count(g.N), mask)
		wantPieces(t, "a small graph", g, out, piecesOf(reach(g, out)))
	}
	way := reach(g, nil)
	for a := -1; a <= g.N; a++ {
		for b := -1; b <= g.N; b++ {
			there := min(a, b) >= 0 && max(a, b) < g.N
			if got := pieces.Same(g, a, b); got != (there && way[a][b]) {
				t.Errorf("Same(%d, %d) of %v: %v", a, b, g, got)
			}
		}
	}
}

// What follows: each vertex is in one piece.
func TestEachVertexIsInOnePiece(t *testing.T) {
	seed := uint32(11)
	next := func(n int) int {
		seed = seed*1664525 + 1013904223
		return int(seed>>8) % n
	}
	for range 40 {
		n := 2 + next(300)
		g := api.Graph{N: n}
		for a := range n {
			for b := a + 1; b < n; b++ {
				if next(n) == 0 {
					g.Edges = append(g.Edges, api.Edge{A: a, B: b})
				}
			}
		}
		var out []int
		for range next(20) {
			out = append(out, next(n+10)-5)
		}
		wantPieces(t, "a graph of chance", g, out, piecesOf(reach(g, out)))
		list := slices.Concat(pieces.All(g)...)
		slices.Sort(list)
		if !slices.Equal(list, count(n)) {
			t.Fatalf("the pieces of %v have the vertices %v", g, list)
		}
	}
}
