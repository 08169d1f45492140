package mates_test

import (
	"math"
	"slices"
	"testing"

	"garland/api"
	"garland/mates"
)

// edgesOf: 0, 1, 2, 3 are the edges 0 1 and 2 3.
func edgesOf(ends ...int) []api.Edge {
	var l []api.Edge
	for i := 0; i+1 < len(ends); i += 2 {
		l = append(l, api.Edge{A: ends[i], B: ends[i+1]})
	}
	return l
}

func graphOf(n int, ends ...int) api.Graph { return api.Graph{N: n, Edges: edgesOf(ends...)} }

// pathOf is 0 1, 1 2, 2 3, and so on, of n vertices.
func pathOf(n int) api.Graph {
	g := api.Graph{N: n}
	for v := range n - 1 {
		g.Edges = append(g.Edges, api.Edge{A: v, B: v + 1})
	}
	return g
}

// whole is the edges of the graph of n vertices that joins all of them, but no more than most.
func whole(n, most int) []api.Edge {
	var l []api.Edge
	for a := range n {
		for b := a + 1; b < n && len(l) < most; b++ {
			l = append(l, api.Edge{A: a, B: b})
		}
	}
	return l
}

// some is those of l whose bits are in mask.
func some(l []api.Edge, mask int) []api.Edge {
	var kept []api.Edge
	for i, e := range l {
		if mask>>i&1 == 1 {
			kept = append(kept, e)
		}
	}
	return kept
}

// eachGraph is every graph of n vertices.
func eachGraph(n int) []api.Graph {
	var all []api.Graph
	edges := whole(n, api.MaxEdges)
	for mask := range 1 << len(edges) {
		all = append(all, api.Graph{N: n, Edges: some(edges, mask)})
	}
	return all
}

// eachList is every list of that length of the given numbers.
func eachList(length int, of []int) [][]int {
	all := [][]int{nil}
	for range length {
		var longer [][]int
		for _, l := range all {
			for _, x := range of {
				longer = append(longer, append(slices.Clone(l), x))
			}
		}
		all = longer
	}
	return all
}

// between is the numbers from least to most.
func between(least, most int) []int {
	var l []int
	for x := least; x <= most; x++ {
		l = append(l, x)
	}
	return l
}

// turned is l backwards, the other end of each edge first.
func turned(l []api.Edge) []api.Edge {
	back := slices.Clone(l)
	slices.Reverse(back)
	for i, e := range back {
		back[i] = api.Edge{A: e.B, B: e.A}
	}
	return back
}

// joined: the definition.
func joined(g api.Graph, a, b int) bool {
	return slices.Contains(g.Edges, api.Edge{A: a, B: b}) || slices.Contains(g.Edges, api.Edge{A: b, B: a})
}

// isRight is the definition, word by word; g is right.
func isRight(g api.Graph, mate []int) bool {
	if len(mate) != g.N {
		return false
	}
	for v, w := range mate {
		if w != -1 && !(joined(g, v, w) && mate[w] == v) {
			return false
		}
	}
	return true
}

// wrongGraphs are graphs that are not right, by what is wrong with them.
func wrongGraphs() map[string]api.Graph {
	return map[string]api.Graph{
		"fewer than no vertices":     {N: -1},
		"far fewer than no vertices": {N: math.MinInt, Edges: edgesOf(0, 1)},
		"a vertex too many":          {N: api.MaxVertices + 1, Edges: edgesOf(0, 1)},
		"far too many vertices":      {N: math.MaxInt, Edges: edgesOf(0, 1)},
		"an edge too many":           {N: 400, Edges: whole(400, api.MaxEdges+1)},
		"a loop":                     graphOf(4, 0, 1, 1, 1),
		"a turned edge":              graphOf(4, 0, 1, 3, 2),
		"an end beyond":              graphOf(4, 0, 1, 2, 4),
		"an end far beyond":          graphOf(4, 0, 1, 2, math.MaxInt),
		"an end below 0":             graphOf(4, -1, 2, 0, 1),
		"an edge of no vertices":     graphOf(0, 0, 1),
		"edges that fall":            graphOf(4, 1, 2, 0, 1),
		"an edge twice":              graphOf(4, 0, 1, 0, 1),
	}
}

// P8.1: Right

func TestRight(t *testing.T) {
	path := pathOf(4)
	for _, c := range []struct {
		what string
		g    api.Graph
		mate []int
	}{
		{"of no vertices", api.Graph{}, nil},
		{"of no vertices, empty", api.Graph{}, []int{}},
		{"of one vertex", graphOf(1), []int{-1}},
		{"of vertices without edges", graphOf(3), []int{-1, -1, -1}},
		{"one edge, not in the matching", graphOf(2, 0, 1), []int{-1, -1}},
		{"one edge", graphOf(2, 0, 1), []int{1, 0}},
		{"one edge of three vertices", graphOf(3, 0, 1), []int{1, 0, -1}},
		{"none of a path", path, []int{-1, -1, -1, -1}},
		{"the first of a path", path, []int{1, 0, -1, -1}},
		{"the middle of a path", path, []int{-1, 2, 1, -1}},
		{"the ends of a path", path, []int{1, 0, 3, 2}},
		{"edges that cross", graphOf(4, 0, 2, 1, 3), []int{2, 3, 0, 1}},
		{"one within the other", graphOf(4, 0, 3, 1, 2), []int{3, 2, 1, 0}},
	} {
		if !mates.Right(c.g, c.mate) {
			t.Errorf("%s: %v is not right", c.what, c.mate)
		}
	}
}

func TestNotRight(t *testing.T) {
	path := pathOf(4)
	for _, c := range []struct {
		what string
		g    api.Graph
		mate []int
	}{
		{"a list of nothing", path, nil},
		{"one too few", path, []int{1, 0, -1}},
		{"one too many", path, []int{1, 0, -1, -1, -1}},
		{"one too many, a pair too many", path, []int{1, 0, 3, 2, 5, 4}},
		{"one of no vertices", api.Graph{}, []int{-1}},
		{"a mate that is not joined", path, []int{2, -1, 0, -1}},
		{"a mate that is not joined, beside one that is", path, []int{3, 2, 1, 0}},
		{"a mate of no edges", graphOf(2), []int{1, 0}},
		{"a mate without a mate", path, []int{1, -1, -1, -1}},
		{"a mate without a mate, above it", path, []int{-1, 0, -1, -1}},
		{"a mate whose mate is another one", path, []int{1, 2, 1, -1}},
		{"a mate whose mate is another one, above it", path, []int{-1, 2, 3, 2}},
		{"mates that go round", graphOf(3, 0, 1, 0, 2, 1, 2), []int{1, 2, 0}},
		{"two that have one mate", graphOf(3, 0, 1, 0, 2, 1, 2), []int{1, 0, 1}},
		{"a vertex that is its own mate", path, []int{0, -1, -1, -1}},
		{"all are their own mates", path, []int{0, 1, 2, 3}},
		{"the only one is its own mate", graphOf(1), []int{0}},
		{"one beyond", path, []int{1, 0, -1, 4}},
		{"one far beyond", path, []int{math.MaxInt, -1, -1, -1}},
		{"one below -1", path, []int{-1, -1, -1, -2}},
		{"one far below -1", path, []int{-1, math.MinInt, -1, -1}},
	} {
		if mates.Right(c.g, c.mate) {
			t.Errorf("%s: %v is right", c.what, c.mate)
		}
	}
}

func TestRightOfAWrongGraph(t *testing.T) {
	for what, g := range wrongGraphs() {
		lists := [][]int{nil, {}, {1, 0}, {-1, -1, -1, -1}, {1, 0, -1, -1}, {1, 0, 3, 2}}
		if g.N >= 0 && g.N <= api.MaxVertices+1 {
			lists = append(lists, slices.Repeat([]int{-1}, g.N))
		}
		for _, mate := range lists {
			if mates.Right(g, mate) {
				t.Errorf("%s: right of a list of %d", what, len(mate))
			}
		}
	}
}

func TestRightOfAllSmallGraphs(t *testing.T) {
	for n := range 5 {
		lists := slices.Concat(eachList(n, between(-2, n)), eachList(max(n-1, 0), between(-1, n)), eachList(n+1, between(-1, 1)))
		for _, g := range eachGraph(n) {
			for _, mate := range lists {
				if got, want := mates.Right(g, mate), isRight(g, mate); got != want {
					t.Fatalf("Right(%v, %v): %v", g, mate, got)
				}
			}
		}
	}
}

// P8.1: None

func TestNone(t *testing.T) {
	for _, g := range []api.Graph{{}, graphOf(1), graphOf(3, 0, 1), pathOf(7), {N: api.MaxVertices}, {N: 400, Edges: whole(400, api.MaxEdges)}} {
		mate := mates.None(g)
		if !slices.Equal(mate, slices.Repeat([]int{-1}, g.N)) || !mates.Right(g, mate) {
			t.Errorf("None of %d vertices: %v", g.N, mate)
		}
	}
	for what, g := range wrongGraphs() {
		if mate := mates.None(g); len(mate) != 0 {
			t.Errorf("None, %s: %d mates", what, len(mate))
		}
	}
}

// P8.1: Of

func TestOf(t *testing.T) {
	path := pathOf(5)
	for _, c := range []struct {
		what string
		g    api.Graph
		l    []api.Edge
		want []int
	}{
		{"no edges of no vertices", api.Graph{}, nil, nil},
		{"no edges of no vertices, empty", api.Graph{}, []api.Edge{}, nil},
		{"no edges", path, nil, []int{-1, -1, -1, -1, -1}},
		{"the chapter's example", graphOf(3, 0, 1), edgesOf(0, 1), []int{1, 0, -1}},
		{"one edge, the other end first", graphOf(3, 0, 1), edgesOf(1, 0), []int{1, 0, -1}},
		{"two edges", path, edgesOf(0, 1, 2, 3), []int{1, 0, 3, 2, -1}},
		{"two edges that fall", path, edgesOf(3, 4, 1, 0), []int{1, 0, -1, 4, 3}},
		{"the last two", path, edgesOf(2, 1, 4, 3), []int{-1, 2, 1, 4, 3}},
		{"edges that cross", graphOf(4, 0, 2, 1, 3), edgesOf(3, 1, 0, 2), []int{2, 3, 0, 1}},
	} {
		if mate, err := mates.Of(c.g, c.l); err != api.OK || !slices.Equal(mate, c.want) || !mates.Right(c.g, mate) {
			t.Errorf("%s: Of(%v): %v, error %d, want %v", c.what, c.l, mate, err, c.want)
		}
	}
}

func TestOfRefuses(t *testing.T) {
	path := pathOf(5)
	for _, c := range []struct {
		what string
		l    []api.Edge
		want api.Errno
	}{
		{"one that is not there", edgesOf(0, 2), api.ErrNone},
		{"one that is not there, turned", edgesOf(4, 0), api.ErrNone},
		{"one that is not there, behind others", edgesOf(0, 1, 2, 3, 1, 4), api.ErrNone},
		{"one that is not there, of two that have mates", edgesOf(0, 1, 2, 3, 0, 3), api.ErrNone},
		{"a loop", edgesOf(1, 1), api.ErrNone},
		{"a loop of one that has a mate", edgesOf(0, 1, 1, 1), api.ErrNone},
		{"an end beyond", edgesOf(4, 5), api.ErrNone},
		{"an end below 0", edgesOf(-1, 0), api.ErrNone},
		{"an end below 0, of one that has a mate", edgesOf(0, 1, 0, -1), api.ErrNone},
		{"both ends far off", edgesOf(math.MaxInt, math.MinInt), api.ErrNone},
		{"a loop far off", edgesOf(math.MinInt, math.MinInt), api.ErrNone},
		{"one twice", edgesOf(0, 1, 0, 1), api.ErrMatching},
		{"one twice, turned", edgesOf(0, 1, 1, 0), api.ErrMatching},
		{"one twice, not in a row", edgesOf(0, 1, 2, 3, 0, 1), api.ErrMatching},
		{"the lower end has a mate", edgesOf(0, 1, 1, 2), api.ErrMatching},
		{"the upper end has a mate", edgesOf(1, 2, 0, 1), api.ErrMatching},
		{"the lower end has a mate, turned", edgesOf(0, 1, 2, 1), api.ErrMatching},
		{"both ends have mates", edgesOf(0, 1, 2, 3, 2, 1), api.ErrMatching},
		{"a mate ahead of what is not there", edgesOf(0, 1, 1, 2, 7, 8), api.ErrMatching},
		{"what is not there ahead of a mate", edgesOf(0, 1, 7, 8, 1, 2), api.ErrNone},
	} {
		if mate, err := mates.Of(path, c.l); err != c.want || len(mate) != 0 {
			t.Errorf("%s: Of(%v): %v, error %d, want error %d and nothing else", c.what, c.l, mate, err, c.want)
		}
	}
	for _, g := range []api.Graph{{}, graphOf(2)} {
		if mate, err := mates.Of(g, edgesOf(0, 1)); err != api.ErrNone || len(mate) != 0 {
			t.Errorf("Of an edge in %v: %v, error %d", g, mate, err)
		}
	}
}

func TestOfAWrongGraph(t *testing.T) {
	for what, g := range wrongGraphs() {
		for _, l := range [][]api.Edge{nil, {}, edgesOf(0, 1), edgesOf(0, 1, 1, 0), edgesOf(7, -7)} {
			if mate, err := mates.Of(g, l); err != api.ErrGraph || len(mate) != 0 {
				t.Errorf("%s: Of(%v): %d mates, error %d", what, l, len(mate), err)
			}
		}
	}
}

// plainOf is the promise, word by word, of a right g.
func plainOf(g api.Graph, l []api.Edge) ([]int, api.Errno) {
	mateOf := map[int]int{}
	for _, e := range l {
		if !joined(g, e.A, e.B) {
			return nil, api.ErrNone
		}
		_, a := mateOf[e.A]
		_, b := mateOf[e.B]
		if a || b {
			return nil, api.ErrMatching
		}
		mateOf[e.A], mateOf[e.B] = e.B, e.A
	}
	mate := make([]int, g.N)
	for v := range mate {
		mate[v] = -1
		if w, there := mateOf[v]; there {
			mate[v] = w
		}
	}
	return mate, api.OK
}

func TestOfAllShortLists(t *testing.T) {
	ends := []api.Edge{{A: 1, B: 1}, {A: 0, B: 4}, {A: -1, B: 2}}
	for _, e := range whole(4, api.MaxEdges) {
		ends = append(ends, e, api.Edge{A: e.B, B: e.A})
	}
	for _, g := range eachGraph(4) {
		for length := range 4 {
			for _, places := range eachList(length, between(0, len(ends)-1)) {
				var l []api.Edge
				for _, i := range places {
					l = append(l, ends[i])
				}
				mate, err := mates.Of(g, l)
				if want, wantErr := plainOf(g, l); err != wantErr || !slices.Equal(mate, want) {
					t.Fatalf("Of(%v, %v): %v, error %d, want %v, error %d", g, l, mate, err, want, wantErr)
				}
			}
		}
	}
}

// P8.2

func TestTold(t *testing.T) {
	for _, c := range []struct {
		what  string
		mate  []int
		size  int
		free  []int
		edges []api.Edge
	}{
		{"nothing", nil, 0, nil, nil},
		{"an empty list", []int{}, 0, nil, nil},
		{"one without a mate", []int{-1}, 0, []int{0}, nil},
		{"none has a mate", []int{-1, -1, -1}, 0, []int{0, 1, 2}, nil},
		{"one edge", []int{1, 0}, 1, nil, edgesOf(0, 1)},
		{"the chapter's example", []int{1, 0, -1}, 1, []int{2}, edgesOf(0, 1)},
		{"two in a row", []int{1, 0, 3, 2}, 2, nil, edgesOf(0, 1, 2, 3)},
		{"two that cross", []int{2, 3, 0, 1}, 2, nil, edgesOf(0, 2, 1, 3)},
		{"one within the other", []int{3, 2, 1, 0}, 2, nil, edgesOf(0, 3, 1, 2)},
		{"free ones between", []int{-1, 4, -1, 6, 1, -1, 3}, 2, []int{0, 2, 5}, edgesOf(1, 4, 3, 6)},
		{"one is its own mate", []int{0}, 0, nil, nil},
		{"each is its own mate", []int{0, 1, 2}, 0, nil, nil},
		{"its own mate between", []int{2, 1, 0}, 1, nil, edgesOf(0, 2)},
		{"mates that go round", []int{1, 2, 0}, 0, nil, nil},
		{"a mate without a mate", []int{1, -1}, 0, []int{1}, nil},
		{"a mate without a mate, above it", []int{-1, 0}, 0, []int{0}, nil},
		{"a third one has one of the two", []int{1, 0, 1}, 1, nil, edgesOf(0, 1)},
		{"a third one has one of the two, ahead of them", []int{1, 2, 1}, 1, nil, edgesOf(1, 2)},
		{"all have one", []int{1, 1, 1, 1}, 0, nil, nil},
		{"one beyond", []int{1, 0, 3}, 1, nil, edgesOf(0, 1)},
		{"one far beyond", []int{math.MaxInt, 2, 1}, 1, nil, edgesOf(1, 2)},
		{"one below -1", []int{-2, -1, 3, 2}, 1, []int{1}, edgesOf(2, 3)},
		{"one far below -1", []int{math.MinInt, -1}, 0, []int{1}, nil},
		{"some of each", []int{0, 2, 0, 9, -7, 6, 5, -1, 8}, 1, []int{7}, edgesOf(5, 6)},
	} {
		size, free, edges := mates.Size(c.mate), mates.Free(c.mate), mates.Edges(c.mate)
		if size != c.size || !slices.Equal(free, c.free) || !slices.Equal(edges, c.edges) {
			t.Errorf("%s: of %v: size %d, free %v, edges %v", c.what, c.mate, size, free, edges)
		}
	}
}

func TestToldOfAllShortLists(t *testing.T) {
	for n := range 6 {
		for _, mate := range eachList(n, between(-2, n)) {
			ends := 0
			var free []int
			var edges []api.Edge
			for v, w := range mate {
				if w == -1 {
					free = append(free, v)
				}
				if w >= 0 && w < n && w != v && mate[w] == v {
					ends++
					if v < w {
						edges = append(edges, api.Edge{A: v, B: w})
					}
				}
			}
			if mates.Size(mate) != ends/2 || !slices.Equal(mates.Free(mate), free) || !slices.Equal(mates.Edges(mate), edges) {
				t.Fatalf("of %v: size %d, free %v, edges %v", mate, mates.Size(mate), mates.Free(mate), mates.Edges(mate))
			}
		}
	}
}

// P8.2 names no limit: whatever the list is.
func TestToldOfALongList(t *testing.T) {
	n := 2 * api.MaxBits
	mate := make([]int, n)
	for v := range mate {
		mate[v] = n - 1 - v
	}
	mate[0], mate[n-1] = -1, -1
	edges := mates.Edges(mate)
	if mates.Size(mate) != n/2-1 || !slices.Equal(mates.Free(mate), []int{0, n - 1}) || len(edges) != n/2-1 {
		t.Fatalf("size %d, free %v, %d edges", mates.Size(mate), mates.Free(mate), len(edges))
	}
	for i, e := range edges {
		if e.A != i+1 || e.B != n-2-i {
			t.Fatalf("edge %d: %v", i, e)
		}
	}
}

// What follows: a matching is its edges.

func checkIsItsEdges(t *testing.T, g api.Graph, mate []int) {
	t.Helper()
	edges := mates.Edges(mate)
	for _, l := range [][]api.Edge{edges, turned(edges)} {
		if again, err := mates.Of(g, l); err != api.OK || !slices.Equal(again, mate) {
			t.Fatalf("of %v: edges %v, error %d, of these %v", mate, edges, err, again)
		}
	}
	if len(edges) != mates.Size(mate) || 2*len(edges)+len(mates.Free(mate)) != g.N {
		t.Fatalf("of %v: %d edges, size %d, free %v", mate, len(edges), mates.Size(mate), mates.Free(mate))
	}
}

func TestAMatchingIsItsEdges(t *testing.T) {
	for n := range 6 {
		g := api.Graph{N: n, Edges: whole(n, api.MaxEdges)}
		for _, mate := range eachList(n, between(-1, n-1)) {
			if mates.Right(g, mate) {
				checkIsItsEdges(t, g, mate)
			}
		}
	}
	for _, g := range eachGraph(4) {
		for mask := range 1 << len(g.Edges) {
			l := some(g.Edges, mask)
			mate, err := mates.Of(g, turned(l))
			if err == api.OK && (!slices.Equal(mates.Edges(mate), l) || !mates.Right(g, mate)) {
				t.Fatalf("%v, of %v: %v, edges %v", g, l, mate, mates.Edges(mate))
			}
		}
	}
}

// everySecond is the edges 0 1, 2 3, 4 5, and so on, of n vertices.
func everySecond(n int) []api.Edge {
	var l []api.Edge
	for v := 0; v+1 < n; v += 2 {
		l = append(l, api.Edge{A: v, B: v + 1})
	}
	return l
}

// mostOfBoth is a graph of as many vertices and edges as may be: the path of all vertices, and edges of the first ones.
func mostOfBoth() api.Graph {
	g := api.Graph{N: api.MaxVertices}
	left := api.MaxEdges - (api.MaxVertices - 1)
	for a := range g.N - 1 {
		g.Edges = append(g.Edges, api.Edge{A: a, B: a + 1})
		for b := a + 2; b < g.N && left > 0; b++ {
			g.Edges = append(g.Edges, api.Edge{A: a, B: b})
			left--
		}
	}
	return g
}

func TestOfTheMost(t *testing.T) {
	for what, g := range map[string]api.Graph{
		"the longest path":         pathOf(api.MaxVertices),
		"all joined that could be": {N: 362, Edges: whole(362, api.MaxEdges)},
		"the most of both":         mostOfBoth(),
	} {
		l := everySecond(g.N)
		mate, err := mates.Of(g, turned(l))
		if err != api.OK || !mates.Right(g, mate) || !slices.Equal(mates.Edges(mate), l) || mates.Size(mate) != len(l) {
			t.Errorf("%s: error %d, size %d, want %d", what, err, mates.Size(mate), len(l))
		}
		checkIsItsEdges(t, g, mate)
		if mate, err := mates.Of(g, append(l, l[0])); err != api.ErrMatching || len(mate) != 0 {
			t.Errorf("%s, an edge twice: error %d, %d mates", what, err, len(mate))
		}
		mate[0] = 2
		if mates.Right(g, mate) {
			t.Errorf("%s: right with a mate whose mate is another one", what)
		}
	}
}

// R3: what is handed in, with the room behind its end, stays as it was and is not kept.

func TestWhatIsHandedInStays(t *testing.T) {
	keptEdges := edgesOf(0, 1, 1, 2, 2, 3, 9, 8, 7, 7)
	edges := slices.Clone(keptEdges)
	g := api.Graph{N: 5, Edges: edges[:3]}
	keptMate := []int{1, 0, 3, 2, -1, 0, 77, -3}
	mate := slices.Clone(keptMate)
	keptList := edgesOf(3, 2, 0, 1, 1, 2, 9, 9)
	list := slices.Clone(keptList)
	for n := range mate {
		mates.Right(g, mate[:n])
		mates.Size(mate[:n])
		mates.Free(mate[:n])
		mates.Edges(mate[:n])
	}
	for n := range list {
		mates.Of(g, list[:n])
	}
	mates.None(g)
	if !slices.Equal(edges, keptEdges) || !slices.Equal(mate, keptMate) || !slices.Equal(list, keptList) {
		t.Errorf("handed in, then %v, %v, %v", edges, mate, list)
	}
}

// spoil writes over a list and the room behind its end.
func spoil[T any](l []T, by T) {
	l = l[:cap(l)]
	for i := range l {
		l[i] = by
	}
}

func TestWhatIsToldIsNew(t *testing.T) {
	told := func(g api.Graph, l []api.Edge) []int {
		mate, err := mates.Of(g, l)
		if err != api.OK {
			t.Fatalf("Of(%v): error %d", l, err)
		}
		return mate
	}
	for _, l := range [][]api.Edge{nil, edgesOf(2, 1), edgesOf(3, 2, 0, 1)} {
		g, given := pathOf(4), slices.Clone(l)
		want := told(g, given)
		spoil(told(g, given), -7)
		spoil(mates.None(g), -7)
		if !slices.Equal(g.Edges, pathOf(4).Edges) || !slices.Equal(given, l) || !slices.Equal(told(g, given), want) {
			t.Errorf("Of(%v): an answer written into, the graph is %v, the list %v", l, g, given)
		}
		kept, none := told(g, given), mates.None(g)
		spoil(g.Edges, api.Edge{A: -7, B: -7})
		spoil(given, api.Edge{A: -7, B: -7})
		if !slices.Equal(kept, want) || !slices.Equal(none, []int{-1, -1, -1, -1}) {
			t.Errorf("Of(%v): what it was given written into, the answer is %v, none %v", l, kept, none)
		}
	}
}

func TestWhatIsToldOfAListIsNew(t *testing.T) {
	for _, l := range [][]int{{-1, -1, -1}, {1, 0, -1, 4, 3}, {-1, 5, 1, -3}} {
		mate := slices.Clone(l)
		free, edges := mates.Free(mate), mates.Edges(mate)
		spoil(mates.Free(mate), -7)
		spoil(mates.Edges(mate), api.Edge{A: -7, B: -7})
		if !slices.Equal(mate, l) {
			t.Errorf("of %v: an answer written into, it is %v", l, mate)
		}
		wantFree, wantEdges := slices.Clone(free), slices.Clone(edges)
		spoil(mate, -7)
		if !slices.Equal(free, wantFree) || !slices.Equal(edges, wantEdges) {
			t.Errorf("of %v: it was written into, free is %v, edges %v", l, free, edges)
		}
	}
}
