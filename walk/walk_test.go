package walk_test

import (
	"math"
	"slices"
	"testing"

	"garland/api"
	"garland/mates"
	"garland/walk"
)

// edgesOf: 0, 1, 2, 3 are the edges 0 1 and 2 3.
func edgesOf(ends ...int) []api.Edge {
	var l []api.Edge
	for i := 0; i+1 < len(ends); i += 2 {
		l = append(l, api.Edge{A: ends[i], B: ends[i+1]})
	}
	return l
}

func graphOf(n int, ends ...int) api.Graph { return api.Graph{N: n, Edges: edgesOf(ends...)} }

// pathOf is 0 1, 1 2, 2 3, and so on, of n vertices.
func pathOf(n int) api.Graph {
	g := api.Graph{N: n}
	for v := range n - 1 {
		g.Edges = append(g.Edges, api.Edge{A: v, B: v + 1})
	}
	return g
}

// cycleOf is the path of n vertices, with an edge between its ends.
func cycleOf(n int) api.Graph {
	g := pathOf(n)
	g.Edges = slices.Insert(g.Edges, 1, api.Edge{A: 0, B: n - 1})
	return g
}

// whole is the edges of the graph of n vertices that joins all of them, but no more than most.
func whole(n, most int) []api.Edge {
	var l []api.Edge
	for a := range n {
		for b := a + 1; b < n && len(l) < most; b++ {
			l = append(l, api.Edge{A: a, B: b})
		}
	}
	return l
}

// eachGraph is every graph of n vertices.
func eachGraph(n int) []api.Graph {
	var all []api.Graph
	edges := whole(n, api.MaxEdges)
	for mask := range 1 << len(edges) {
		g := api.Graph{N: n}
		for i, e := range edges {
			if mask>>i&1 == 1 {
				g.Edges = append(g.Edges, e)
			}
		}
		all = append(all, g)
	}
	return all
}

// eachMatching is every matching of g.
func eachMatching(g api.Graph) [][]int {
	all := [][]int{slices.Repeat([]int{-1}, g.N)}
	for _, e := range g.Edges {
		for _, mate := range all {
			if mate[e.A] == -1 && mate[e.B] == -1 {
				more := slices.Clone(mate)
				more[e.A], more[e.B] = e.B, e.A
				all = append(all, more)
			}
		}
	}
	return all
}

// eachList is every list of that length of the numbers from least to most.
func eachList(length, least, most int) [][]int {
	all := [][]int{nil}
	for range length {
		var longer [][]int
		for _, l := range all {
			for x := least; x <= most; x++ {
				longer = append(longer, append(slices.Clone(l), x))
			}
		}
		all = longer
	}
	return all
}

// eachRow is every list of distinct numbers from 0 to n - 1.
func eachRow(n int) [][]int {
	all := [][]int{nil}
	for i := 0; i < len(all); i++ {
		for x := range n {
			if !slices.Contains(all[i], x) {
				all = append(all, append(slices.Clone(all[i]), x))
			}
		}
	}
	return all
}

// backwards is l, its last one first.
func backwards(l []int) []int {
	back := slices.Clone(l)
	slices.Reverse(back)
	return back
}

// upTo is 0, 1, and so on to n - 1.
func upTo(n int) []int {
	l := make([]int, n)
	for v := range l {
		l[v] = v
	}
	return l
}

// mateOf is the matching of n vertices of these edges.
func mateOf(n int, ends ...int) []int {
	mate := slices.Repeat([]int{-1}, n)
	for _, e := range edgesOf(ends...) {
		mate[e.A], mate[e.B] = e.B, e.A
	}
	return mate
}

// joined: the definition.
func joined(g api.Graph, a, b int) bool {
	return slices.Contains(g.Edges, api.Edge{A: a, B: b}) || slices.Contains(g.Edges, api.Edge{A: b, B: a})
}

// isPath is the definition, word by word; g is right.
func isPath(g api.Graph, path []int) bool {
	for i, v := range path {
		if v < 0 || v >= g.N || slices.Contains(path[:i], v) || i > 0 && !joined(g, path[i-1], v) {
			return false
		}
	}
	return len(path) > 0
}

// isTurned tells whether of the path's edges the first, the third and so on are the
// matching's, and no others; or, if ahead, the second, the fourth and so on, and no others.
func isTurned(mate, path []int, ahead bool) bool {
	for i := range len(path) - 1 {
		if (mate[path[i]] == path[i+1]) != ((i%2 == 0) != ahead) {
			return false
		}
	}
	return true
}

// alternates is the definition, word by word; mate is right for g.
func alternates(g api.Graph, mate, path []int) bool {
	return isPath(g, path) && (isTurned(mate, path, false) || isTurned(mate, path, true))
}

// augments is the definition, word by word; mate is right for g.
func augments(g api.Graph, mate, path []int) bool {
	return len(path) >= 2 && alternates(g, mate, path) && mate[path[0]] != path[1] &&
		mate[path[0]] == -1 && mate[path[len(path)-1]] == -1
}

// wrongGraphs are graphs that are not right, by what is wrong with them.
func wrongGraphs() map[string]api.Graph {
	return map[string]api.Graph{
		"fewer than no vertices":     {N: -1},
		"far fewer than no vertices": {N: math.MinInt, Edges: edgesOf(0, 1)},
		"a vertex too many":          {N: api.MaxVertices + 1, Edges: edgesOf(0, 1)},
		"far too many vertices":      {N: math.MaxInt, Edges: edgesOf(0, 1)},
		"an edge too many":           {N: 400, Edges: whole(400, api.MaxEdges+1)},
		"a loop":                     graphOf(4, 0, 1, 1, 1),
		"a turned edge":              graphOf(4, 0, 1, 3, 2),
		"an end beyond":              graphOf(4, 0, 1, 2, 4),
		"an end far beyond":          graphOf(4, 0, 1, 2, math.MaxInt),
		"an end below 0":             graphOf(4, -1, 2, 0, 1),
		"an edge of no vertices":     graphOf(0, 0, 1),
		"edges that fall":            graphOf(4, 1, 2, 0, 1),
		"an edge twice":              graphOf(4, 0, 1, 0, 1),
	}
}

// freeLists are lists of mates none of whom has one, as many as g has vertices among them where that may be.
func freeLists(g api.Graph) [][]int {
	lists := [][]int{nil, {}, {-1, -1, -1, -1}, {1, 0, -1, -1}}
	if g.N >= 0 && g.N <= api.MaxVertices+1 {
		lists = append(lists, slices.Repeat([]int{-1}, g.N))
	}
	return lists
}

// notMatchings are lists that are not right for the path of five vertices, by what is wrong with them.
func notMatchings() map[string][]int {
	return map[string][]int{
		"nothing":                         nil,
		"one too few":                     {-1, -1, -1, -1},
		"one too many":                    {-1, -1, -1, -1, -1, -1},
		"a mate that is not joined":       {-1, -1, 4, -1, 2},
		"a mate without a mate":           {-1, -1, -1, 4, -1},
		"a mate whose mate is another":    {-1, -1, 3, 2, 3},
		"one that is its own mate":        {-1, -1, -1, -1, 4},
		"a mate beyond":                   {-1, -1, -1, -1, 5},
		"a mate far beyond":               {-1, -1, -1, -1, math.MaxInt},
		"a mate below -1":                 {-1, -1, -1, -1, -2},
		"a mate far below -1":             {-1, -1, -1, -1, math.MinInt},
		"a mate without one, at the path": {1, -1, -1, -1, -1},
		"two that have one mate":          {1, 0, 1, -1, -1},
	}
}

// P9.1: Alternates, Augments, and what Flip refuses

// wantWays asks all three calls of a path, of a graph and a matching that are right.
func wantWays(t *testing.T, what string, g api.Graph, mate, path []int, alternates, augments bool) {
	t.Helper()
	if got := walk.Alternates(g, mate, path); got != alternates {
		t.Errorf("%s: Alternates(%v, %v, %v): %v", what, g, mate, path, got)
	}
	if got := walk.Augments(g, mate, path); got != augments {
		t.Errorf("%s: Augments(%v, %v, %v): %v", what, g, mate, path, got)
	}
	flipped, err := walk.Flip(g, mate, path)
	if !augments && (err != api.ErrArg || len(flipped) != 0) || augments && err != api.OK {
		t.Errorf("%s: Flip(%v, %v, %v): %v, error %d", what, g, mate, path, flipped, err)
	}
}

func TestShortPaths(t *testing.T) {
	g := graphOf(4, 0, 1, 1, 2)
	mate := mateOf(4, 1, 2)
	for _, c := range []struct {
		what                 string
		path                 []int
		alternates, augments bool
	}{
		{"nothing", nil, false, false},
		{"an empty list", []int{}, false, false},
		{"a free vertex", []int{0}, true, false},
		{"a vertex with a mate", []int{1}, true, false},
		{"a vertex without edges", []int{3}, true, false},
		{"a vertex beyond", []int{4}, false, false},
		{"a vertex far beyond", []int{math.MaxInt}, false, false},
		{"a vertex below 0", []int{-1}, false, false},
		{"a vertex far below 0", []int{math.MinInt}, false, false},
		{"the matching's edge", []int{1, 2}, true, false},
		{"the matching's edge, turned", []int{2, 1}, true, false},
		{"an edge that is not the matching's, one end free", []int{0, 1}, true, false},
		{"an edge that is not the matching's, turned", []int{1, 0}, true, false},
		{"two that are not joined", []int{0, 2}, false, false},
		{"two that are free, and not joined", []int{0, 3}, false, false},
		{"a vertex twice", []int{0, 0}, false, false},
		{"a free vertex and its mate, -1", []int{0, -1}, false, false},
		{"-1 and a free vertex", []int{-1, 0}, false, false},
		{"-1 twice", []int{-1, -1}, false, false},
		{"one beyond, first", []int{4, 1}, false, false},
		{"one beyond, last", []int{1, 4}, false, false},
	} {
		wantWays(t, c.what, g, mate, c.path, c.alternates, c.augments)
	}
	edge := graphOf(2, 0, 1)
	wantWays(t, "the chapter's example", edge, mates.None(edge), []int{0, 1}, true, true)
	wantWays(t, "the chapter's example, turned", edge, mates.None(edge), []int{1, 0}, true, true)
	wantWays(t, "the edge is the matching's", edge, []int{1, 0}, []int{0, 1}, true, false)
	wantWays(t, "one vertex", graphOf(1), []int{-1}, []int{0}, true, false)
	for _, path := range [][]int{nil, {0}, {-1}, {0, 1}} {
		wantWays(t, "of no vertices", api.Graph{}, nil, path, false, false)
	}
}

func TestLongerPaths(t *testing.T) {
	path, cycle, odd := pathOf(7), cycleOf(6), cycleOf(5)
	for _, c := range []struct {
		what                 string
		g                    api.Graph
		mate, path           []int
		alternates, augments bool
	}{
		{"free ends, one edge of the matching", path, mateOf(7, 1, 2), []int{0, 1, 2, 3}, true, true},
		{"that, turned", path, mateOf(7, 1, 2), []int{3, 2, 1, 0}, true, true},
		{"free ends, two edges of the matching", path, mateOf(7, 1, 2, 3, 4), []int{0, 1, 2, 3, 4, 5}, true, true},
		{"not from its end on", path, mateOf(7, 1, 2, 3, 4), []int{1, 2, 3, 4, 5}, true, false},
		{"not to its end", path, mateOf(7, 1, 2, 3, 4), []int{0, 1, 2, 3, 4}, true, false},
		{"beyond its end", path, mateOf(7, 1, 2, 3, 4), []int{0, 1, 2, 3, 4, 5, 6}, false, false},
		{"the matching's at both ends", path, mateOf(7, 1, 2, 3, 4), []int{1, 2, 3, 4}, true, false},
		{"the matching's at neither end, these with mates", path, mateOf(7, 1, 2, 3, 4, 5, 6), []int{2, 3, 4, 5}, true, false},
		{"the matching's at neither end, one with a mate", path, mateOf(7, 1, 2, 3, 4, 5, 6), []int{0, 1, 2, 3, 4, 5}, true, false},
		{"that, turned", path, mateOf(7, 1, 2, 3, 4, 5, 6), []int{5, 4, 3, 2, 1, 0}, true, false},
		{"two in a row are none of it", path, mateOf(7), []int{2, 3, 4}, false, false},
		{"three in a row are none of it, free ends", path, mateOf(7), []int{2, 3, 4, 5}, false, false},
		{"the first two are none of it", path, mateOf(7, 2, 3), []int{0, 1, 2, 3}, false, false},
		{"the last two are none of it", path, mateOf(7, 2, 3), []int{2, 3, 4, 5}, false, false},
		{"two in the midst are none of it, free ends", path, mateOf(7, 1, 2, 4, 5), []int{0, 1, 2, 3, 4, 5, 6}, false, false},
		{"it comes back along the matching's edge", path, mateOf(7, 1, 2), []int{1, 2, 1}, false, false},
		{"it comes back along another edge", path, mateOf(7, 1, 2), []int{0, 1, 0}, false, false},
		{"it comes back along both", path, mateOf(7, 1, 2), []int{0, 1, 2, 1, 0}, false, false},
		{"a vertex stays", path, mateOf(7, 1, 2), []int{0, 1, 1, 2, 3}, false, false},
		{"one is left out", path, mateOf(7, 1, 2), []int{0, 2, 3}, false, false},
		{"all of a cycle but an edge", cycle, mateOf(6, 0, 1, 2, 3, 4, 5), upTo(6), true, false},
		{"all of a cycle but the matching's edge", cycle, mateOf(6, 0, 5, 1, 2, 3, 4), upTo(6), true, false},
		{"round a cycle", cycle, mateOf(6, 0, 1, 2, 3, 4, 5), []int{0, 1, 2, 3, 4, 5, 0}, false, false},
		{"along a cycle, its ends free", cycle, mateOf(6, 1, 2, 3, 4), upTo(6), true, true},
		{"an odd cycle, from its free one", odd, mateOf(5, 1, 2, 3, 4), upTo(5), true, false},
		{"an odd cycle, back to its free one", odd, mateOf(5, 1, 2, 3, 4), []int{0, 1, 2, 3, 4, 0}, false, false},
		{"through -1", path, mateOf(7, 1, 2), []int{0, 1, 2, -1, 3}, false, false},
		{"a vertex beyond at its end", path, mateOf(7, 1, 2, 3, 4, 5, 6), []int{0, 1, 2, 3, 4, 5, 6, 7}, false, false},
	} {
		wantWays(t, c.what, c.g, c.mate, c.path, c.alternates, c.augments)
	}
}

func TestWaysOfAWrongGraph(t *testing.T) {
	for what, g := range wrongGraphs() {
		for _, mate := range freeLists(g) {
			for _, path := range [][]int{nil, {}, {0}, {0, 1}, {1, 0}, {2, 3}} {
				if walk.Alternates(g, mate, path) || walk.Augments(g, mate, path) {
					t.Errorf("%s: %v alternates, or augments", what, path)
				}
				if flipped, err := walk.Flip(g, mate, path); err != api.ErrGraph || len(flipped) != 0 {
					t.Errorf("%s: Flip of %v: %d mates, error %d", what, path, len(flipped), err)
				}
			}
		}
	}
}

func TestWaysOfAWrongMatching(t *testing.T) {
	g := pathOf(5)
	for what, mate := range notMatchings() {
		for _, path := range [][]int{nil, {}, {0}, {0, 1}, {1, 0}, {0, 0}, {9}, {-1}, {0, 1, 2, 3}} {
			if walk.Alternates(g, mate, path) || walk.Augments(g, mate, path) {
				t.Errorf("%s: %v alternates, or augments", what, path)
			}
			if flipped, err := walk.Flip(g, mate, path); err != api.ErrMatching || len(flipped) != 0 {
				t.Errorf("%s: Flip of %v: %v, error %d", what, path, flipped, err)
			}
		}
	}
}

// checkWays holds the three calls against the definitions.
func checkWays(t *testing.T, g api.Graph, mate, path []int) {
	t.Helper()
	if got, want := walk.Alternates(g, mate, path), alternates(g, mate, path); got != want {
		t.Fatalf("Alternates(%v, %v, %v): %v", g, mate, path, got)
	}
	want := augments(g, mate, path)
	if got := walk.Augments(g, mate, path); got != want {
		t.Fatalf("Augments(%v, %v, %v): %v", g, mate, path, got)
	}
	flipped, err := walk.Flip(g, mate, path)
	if want {
		checkFlipped(t, g, mate, path, flipped, err)
	} else if err != api.ErrArg || len(flipped) != 0 {
		t.Fatalf("Flip(%v, %v, %v): %v, error %d", g, mate, path, flipped, err)
	}
}

func TestWaysOfAllSmallGraphs(t *testing.T) {
	for n := range 5 {
		var lists [][]int
		for length := range n + 1 {
			lists = append(lists, eachList(length, -1, n)...)
		}
		lists = append(lists, eachList(n+1, 0, n-1)...)
		for _, g := range eachGraph(n) {
			for _, mate := range eachMatching(g) {
				for _, path := range lists {
					checkWays(t, g, mate, path)
				}
			}
		}
	}
}

func TestWaysOfSomeGraphsOfSix(t *testing.T) {
	rows := eachRow(6)
	for _, g := range []api.Graph{
		pathOf(6), cycleOf(6), {N: 6, Edges: whole(6, api.MaxEdges)},
		graphOf(6, 0, 3, 0, 4, 0, 5, 1, 3, 1, 4, 1, 5, 2, 3, 2, 4, 2, 5),
		graphOf(6, 0, 1, 0, 2, 1, 2, 2, 3, 3, 4, 3, 5, 4, 5),
	} {
		for _, mate := range eachMatching(g) {
			for _, path := range rows {
				checkWays(t, g, mate, path)
			}
		}
	}
}

// P9.1: what Flip flips

// pathEdges is the edges of a path.
func pathEdges(path []int) map[api.Edge]int {
	edges := map[api.Edge]int{}
	for i := range len(path) - 1 {
		edges[api.Edge{A: min(path[i], path[i+1]), B: max(path[i], path[i+1])}] = i
	}
	return edges
}

// checkFlipped holds an answer of Flip, of a path that augments, against the promise.
func checkFlipped(t *testing.T, g api.Graph, mate, path, flipped []int, err api.Errno) {
	t.Helper()
	if err != api.OK || !mates.Right(g, flipped) || mates.Size(flipped) != mates.Size(mate)+1 {
		t.Fatalf("Flip(%v, %v, %v): %v, error %d", g, mate, path, flipped, err)
	}
	edges := pathEdges(path)
	for _, e := range g.Edges {
		_, ofPath := edges[e]
		if was, is := mate[e.A] == e.B, flipped[e.A] == e.B; is != (was != ofPath) {
			t.Fatalf("Flip(%v, %v, %v): %v: the edge %v", g, mate, path, flipped, e)
		}
	}
	lies, err := walk.Apart(g, mate, flipped)
	if err != api.OK || len(lies) != 1 || !slices.Equal(lies[0], slices.Sorted(slices.Values(path))) {
		t.Fatalf("Flip(%v, %v, %v): %v, apart %v, error %d", g, mate, path, flipped, lies, err)
	}
}

func TestFlip(t *testing.T) {
	for _, c := range []struct {
		what       string
		g          api.Graph
		mate, path []int
		want       []int
	}{
		{"the chapter's example", graphOf(2, 0, 1), []int{-1, -1}, []int{0, 1}, []int{1, 0}},
		{"an edge of a path", pathOf(4), mateOf(4), []int{2, 1}, mateOf(4, 1, 2)},
		{"an edge beside the matching's", pathOf(6), mateOf(6, 0, 1, 4, 5), []int{2, 3}, mateOf(6, 0, 1, 2, 3, 4, 5)},
		{"three edges", pathOf(4), mateOf(4, 1, 2), []int{0, 1, 2, 3}, mateOf(4, 0, 1, 2, 3)},
		{"three edges beside others", pathOf(8), mateOf(8, 1, 2, 4, 5, 6, 7), []int{3, 2, 1, 0}, mateOf(8, 0, 1, 2, 3, 4, 5, 6, 7)},
		{"three edges, others free", pathOf(7), mateOf(7, 2, 3), []int{1, 2, 3, 4}, mateOf(7, 1, 2, 3, 4)},
		{"five edges of a cycle", cycleOf(6), mateOf(6, 1, 2, 3, 4), upTo(6), mateOf(6, 0, 1, 2, 3, 4, 5)},
		{"the sixth edge of a cycle", cycleOf(6), mateOf(6, 1, 2, 3, 4), []int{5, 0}, mateOf(6, 0, 5, 1, 2, 3, 4)},
		{"back and forth", graphOf(6, 0, 3, 1, 3, 1, 5, 4, 5), mateOf(6, 1, 3), []int{0, 3, 1, 5}, mateOf(6, 0, 3, 1, 5)},
	} {
		flipped, err := walk.Flip(c.g, c.mate, c.path)
		if err != api.OK || !slices.Equal(flipped, c.want) {
			t.Errorf("%s: %v, error %d, want %v", c.what, flipped, err, c.want)
		}
		back, err := walk.Flip(c.g, c.mate, backwards(c.path))
		if err != api.OK || !slices.Equal(back, c.want) {
			t.Errorf("%s, turned: %v, error %d, want %v", c.what, back, err, c.want)
		}
	}
}

func TestFlipRefusesInOrder(t *testing.T) {
	g := pathOf(4)
	good, bad := mateOf(4, 1, 2), []int{1, -1, -1, -1}
	for _, c := range []struct {
		what       string
		g          api.Graph
		mate, path []int
		want       api.Errno
	}{
		{"all are wrong", graphOf(4, 1, 0), bad, []int{0}, api.ErrGraph},
		{"the graph and the matching", graphOf(4, 1, 0), bad, []int{0, 1, 2, 3}, api.ErrGraph},
		{"the graph and the path", graphOf(4, 1, 0), good, []int{9}, api.ErrGraph},
		{"the graph", api.Graph{N: -1, Edges: g.Edges}, good, []int{0, 1, 2, 3}, api.ErrGraph},
		{"the matching and the path", g, bad, []int{0, 0}, api.ErrMatching},
		{"the matching, of nothing, and the path", g, nil, nil, api.ErrMatching},
		{"the matching", g, bad, []int{2, 3}, api.ErrMatching},
		{"the path", g, good, []int{1, 2}, api.ErrArg},
		{"the path, of nothing", g, good, nil, api.ErrArg},
		{"the path, of what is not there", g, good, []int{0, 1, 2, 4}, api.ErrArg},
	} {
		if flipped, err := walk.Flip(c.g, c.mate, c.path); err != c.want || len(flipped) != 0 {
			t.Errorf("%s: %v, error %d, want error %d and nothing else", c.what, flipped, err, c.want)
		}
	}
}

// mostOfBoth is a graph of as many vertices and edges as may be: the path of all vertices, and edges of the first ones.
func mostOfBoth() api.Graph {
	g := api.Graph{N: api.MaxVertices}
	left := api.MaxEdges - (api.MaxVertices - 1)
	for a := range g.N - 1 {
		g.Edges = append(g.Edges, api.Edge{A: a, B: a + 1})
		for b := a + 2; b < g.N && left > 0; b++ {
			g.Edges = append(g.Edges, api.Edge{A: a, B: b})
			left--
		}
	}
	return g
}

// everySecond is the matching of n vertices of the edges from first on, each second one of the path of all vertices.
func everySecond(n, first int) []int {
	mate := slices.Repeat([]int{-1}, n)
	for v := first; v+1 < n; v += 2 {
		mate[v], mate[v+1] = v+1, v
	}
	return mate
}

func TestWaysOfTheMost(t *testing.T) {
	for what, g := range map[string]api.Graph{"the longest path": pathOf(api.MaxVertices), "the most of both": mostOfBoth()} {
		before, after, path := everySecond(g.N, 1), everySecond(g.N, 0), upTo(g.N)
		if !walk.Alternates(g, before, path) || !walk.Augments(g, before, path) || !walk.Alternates(g, after, path) || walk.Augments(g, after, path) {
			t.Errorf("%s: from end to end", what)
		}
		if flipped, err := walk.Flip(g, before, path); err != api.OK || !slices.Equal(flipped, after) {
			t.Errorf("%s: Flip: %d mates, error %d", what, len(flipped), err)
		}
		if lies, err := walk.Apart(g, before, after); err != api.OK || len(lies) != 1 || !slices.Equal(lies[0], path) {
			t.Errorf("%s: Apart: %d pieces, error %d", what, len(lies), err)
		}
		for _, wrong := range [][]int{
			slices.Concat(path, path), slices.Concat(path, []int{g.N}), slices.Concat(path[:g.N-1], []int{0}),
			slices.Repeat([]int{0, 1}, 100*api.MaxVertices), slices.Repeat([]int{-1}, 100*api.MaxVertices),
		} {
			flipped, err := walk.Flip(g, before, wrong)
			if walk.Alternates(g, before, wrong) || walk.Augments(g, before, wrong) || err != api.ErrArg || len(flipped) != 0 {
				t.Errorf("%s: of a list of %d", what, len(wrong))
			}
		}
	}
}

// P9.2

func equalLists(a, b [][]int) bool { return slices.EqualFunc(a, b, slices.Equal) }

func TestApart(t *testing.T) {
	path, cycle := pathOf(8), cycleOf(6)
	two := graphOf(8, 0, 2, 0, 6, 1, 3, 1, 7, 2, 4, 3, 5, 4, 6, 5, 7) // the cycles 0 2 4 6 and 1 3 5 7
	for _, c := range []struct {
		what string
		g    api.Graph
		a, b []int
		want [][]int
	}{
		{"of no vertices", api.Graph{}, nil, nil, nil},
		{"of no vertices, empty", api.Graph{}, []int{}, []int{}, nil},
		{"of one vertex", graphOf(1), mateOf(1), mateOf(1), nil},
		{"none and none", path, mateOf(8), mateOf(8), nil},
		{"one edge and none", path, mateOf(8, 1, 2), mateOf(8), [][]int{{1, 2}}},
		{"an edge of both, and one more", path, mateOf(8, 1, 2, 4, 5), mateOf(8, 1, 2), [][]int{{4, 5}}},
		{"two edges that meet", path, mateOf(8, 1, 2), mateOf(8, 2, 3), [][]int{{1, 2, 3}}},
		{"two edges that do not, though they are joined", path, mateOf(8, 1, 2), mateOf(8, 3, 4), [][]int{{1, 2}, {3, 4}}},
		{"two edges of one, though they are joined", path, mateOf(8, 1, 2, 3, 4), mateOf(8), [][]int{{1, 2}, {3, 4}}},
		{"all of a path", path, mateOf(8, 0, 1, 2, 3, 4, 5, 6, 7), mateOf(8, 1, 2, 3, 4, 5, 6), [][]int{{0, 1, 2, 3, 4, 5, 6, 7}}},
		{"an edge of both parts it", path, mateOf(8, 0, 1, 3, 4, 6, 7), mateOf(8, 1, 2, 3, 4, 5, 6), [][]int{{0, 1, 2}, {5, 6, 7}}},
		{"a cycle", cycle, mateOf(6, 0, 1, 2, 3, 4, 5), mateOf(6, 0, 5, 1, 2, 3, 4), [][]int{{0, 1, 2, 3, 4, 5}}},
		{"a cycle of four", graphOf(4, 0, 1, 0, 3, 1, 2, 2, 3), []int{1, 0, 3, 2}, []int{3, 2, 1, 0}, [][]int{{0, 1, 2, 3}}},
		{"two cycles, one within the other", two, []int{2, 3, 0, 1, 6, 7, 4, 5}, []int{6, 7, 4, 5, 2, 3, 0, 1}, [][]int{{0, 2, 4, 6}, {1, 3, 5, 7}}},
		{"a cycle, and nothing beside it", two, []int{2, 3, 0, 1, 6, 7, 4, 5}, []int{2, 7, 0, 5, 6, 3, 4, 1}, [][]int{{1, 3, 5, 7}}},
		{"a cycle and a path", two, []int{2, 3, 0, 1, 6, 7, 4, 5}, []int{6, 7, 4, -1, 2, -1, 0, 1}, [][]int{{0, 2, 4, 6}, {1, 3, 5, 7}}},
		{"the least one is not an end", graphOf(5, 0, 3, 0, 4, 1, 4), mateOf(5, 0, 3, 1, 4), mateOf(5, 0, 4), [][]int{{0, 1, 3, 4}}},
		{"pieces that rise by what is least in them", graphOf(6, 0, 5, 1, 3, 2, 5, 3, 4), mateOf(6, 2, 5, 3, 4), mateOf(6, 0, 5, 1, 3), [][]int{{0, 2, 5}, {1, 3, 4}}},
	} {
		for _, turn := range [][2][]int{{c.a, c.b}, {c.b, c.a}} {
			if got, err := walk.Apart(c.g, turn[0], turn[1]); err != api.OK || !equalLists(got, c.want) {
				t.Errorf("%s: Apart(%v, %v): %v, error %d, want %v", c.what, turn[0], turn[1], got, err, c.want)
			}
		}
	}
}

func TestApartRefuses(t *testing.T) {
	for what, g := range wrongGraphs() {
		for _, a := range freeLists(g) {
			for _, b := range freeLists(g) {
				if lies, err := walk.Apart(g, a, b); err != api.ErrGraph || len(lies) != 0 {
					t.Errorf("%s: %v, error %d", what, lies, err)
				}
			}
		}
	}
	g := pathOf(5)
	for what, bad := range notMatchings() {
		for _, good := range [][]int{mateOf(5), mateOf(5, 0, 1, 2, 3), bad} {
			for _, turn := range [][2][]int{{good, bad}, {bad, good}} {
				if lies, err := walk.Apart(g, turn[0], turn[1]); err != api.ErrMatching || len(lies) != 0 {
					t.Errorf("%s: Apart(%v, %v): %v, error %d", what, turn[0], turn[1], lies, err)
				}
			}
		}
	}
}

// plainApart is the promise, word by word: each vertex takes the least name along the edges that are in just one.
func plainApart(g api.Graph, a, b []int) [][]int {
	name, touched := upTo(g.N), map[int]int{}
	for range g.N {
		for _, e := range g.Edges {
			if (a[e.A] == e.B) != (b[e.A] == e.B) {
				least := min(name[e.A], name[e.B])
				name[e.A], name[e.B] = least, least
				touched[e.A], touched[e.B] = 1, 1
			}
		}
	}
	var list [][]int
	for least := range g.N {
		var piece []int
		for v := range g.N {
			if name[v] == least && touched[v] == 1 {
				piece = append(piece, v)
			}
		}
		if len(piece) > 0 {
			list = append(list, piece)
		}
	}
	return list
}

func checkApart(t *testing.T, g api.Graph, a, b []int) {
	t.Helper()
	lies, err := walk.Apart(g, a, b)
	if want := plainApart(g, a, b); err != api.OK || !equalLists(lies, want) {
		t.Fatalf("Apart(%v, %v, %v): %v, error %d, want %v", g, a, b, lies, err, want)
	}
	if slices.Equal(a, b) != (len(lies) == 0) {
		t.Fatalf("Apart(%v, %v, %v): %v", g, a, b, lies)
	}
}

func TestApartOfAllSmallGraphs(t *testing.T) {
	var graphs []api.Graph
	for n := range 6 {
		graphs = append(graphs, eachGraph(n)...)
	}
	graphs = append(graphs, api.Graph{N: 6, Edges: whole(6, api.MaxEdges)}, api.Graph{N: 7, Edges: whole(7, api.MaxEdges)})
	for _, g := range graphs {
		all := eachMatching(g)
		for _, a := range all {
			for _, b := range all {
				checkApart(t, g, a, b)
			}
		}
	}
}

func TestApartOfTheMost(t *testing.T) {
	g := mostOfBoth()
	mate := everySecond(g.N, 0)
	if lies, err := walk.Apart(g, mate, mate); err != api.OK || len(lies) != 0 {
		t.Errorf("of itself: %d pieces, error %d", len(lies), err)
	}
	lies, err := walk.Apart(g, mates.None(g), mate)
	if err != api.OK || len(lies) != g.N/2 {
		t.Fatalf("of none: %d pieces, error %d", len(lies), err)
	}
	for i, piece := range lies {
		if !slices.Equal(piece, []int{2 * i, 2*i + 1}) {
			t.Fatalf("of none: piece %d: %v", i, piece)
		}
	}
}

// R3: what is handed in, with the room behind its end, stays as it was and is not kept.

func TestWhatIsHandedInStays(t *testing.T) {
	keptEdges := edgesOf(0, 1, 0, 4, 1, 2, 2, 3, 3, 4, 9, 8, 7, 7)
	edges := slices.Clone(keptEdges)
	keptMate := []int{-1, 2, 1, -1, -1, 77, -3}
	mate := slices.Clone(keptMate)
	keptOther := []int{4, -1, 3, 2, 0, 55, 0}
	other := slices.Clone(keptOther)
	keptPath := []int{0, 1, 2, 3, 4, 4, 9, -1}
	path := slices.Clone(keptPath)
	for count := range edges {
		g := api.Graph{N: 5, Edges: edges[:count]}
		for n := range path {
			walk.Alternates(g, mate[:5], path[:n])
			walk.Augments(g, mate[:5], path[:n])
			walk.Flip(g, mate[:5], path[:n])
			walk.Flip(g, other[:5], path[:n])
			walk.Flip(g, mate, path[:n])
		}
		walk.Apart(g, mate[:5], other[:5])
		walk.Apart(g, other[:5], mate[:5])
		walk.Apart(g, mate[:5], mate[:5])
		walk.Apart(g, mate[:5], other)
	}
	if !slices.Equal(edges, keptEdges) || !slices.Equal(mate, keptMate) || !slices.Equal(other, keptOther) || !slices.Equal(path, keptPath) {
		t.Errorf("handed in, then %v, %v, %v, %v", edges, mate, other, path)
	}
}

// spoil writes over a list and the room behind its end.
func spoil[T any](l []T, by T) {
	l = l[:cap(l)]
	for i := range l {
		l[i] = by
	}
}

func TestWhatFlipTellsIsNew(t *testing.T) {
	g, mate, path := pathOf(5), mateOf(5, 1, 2), []int{0, 1, 2, 3}
	want := mateOf(5, 0, 1, 2, 3)
	first, _ := walk.Flip(g, mate, path)
	spoil(first, -7)
	if !slices.Equal(g.Edges, pathOf(5).Edges) || !slices.Equal(mate, mateOf(5, 1, 2)) || !slices.Equal(path, []int{0, 1, 2, 3}) {
		t.Errorf("an answer written into: %v, %v, %v", g, mate, path)
	}
	second, err := walk.Flip(g, mate, path)
	spoil(g.Edges, api.Edge{A: -7, B: -7})
	spoil(mate, -7)
	spoil(path, -7)
	if err != api.OK || !slices.Equal(second, want) {
		t.Errorf("what it was given written into: %v, error %d", second, err)
	}
}

func TestWhatApartTellsIsNew(t *testing.T) {
	g, a, b := pathOf(7), mateOf(7, 0, 1, 4, 5), mateOf(7, 1, 2, 5, 6)
	want := [][]int{{0, 1, 2}, {4, 5, 6}}
	for i := range want {
		lies, _ := walk.Apart(g, a, b)
		spoil(lies[i], -7)
		if !slices.Equal(lies[1-i], want[1-i]) {
			t.Errorf("piece %d written into: %v", i, lies)
		}
		spoil(lies, nil)
	}
	if !slices.Equal(g.Edges, pathOf(7).Edges) || !slices.Equal(a, mateOf(7, 0, 1, 4, 5)) || !slices.Equal(b, mateOf(7, 1, 2, 5, 6)) {
		t.Errorf("an answer written into: %v, %v, %v", g, a, b)
	}
	lies, err := walk.Apart(g, a, b)
	spoil(g.Edges, api.Edge{A: -7, B: -7})
	spoil(a, -7)
	spoil(b, -7)
	if err != api.OK || !equalLists(lies, want) {
		t.Errorf("what it was given written into: %v, error %d", lies, err)
	}
}
