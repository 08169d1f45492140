package sub_test

import (
	"math"
	"slices"
	"testing"

	"garland/api"
	"garland/graph"
	"garland/sub"
)

// edgesOf: 0, 1, 2, 3 are the edges 0 1 and 2 3.
func edgesOf(ends ...int) []api.Edge {
	var l []api.Edge
	for i := 0; i+1 < len(ends); i += 2 {
		l = append(l, api.Edge{A: ends[i], B: ends[i+1]})
	}
	return l
}

func graphOf(n int, ends ...int) api.Graph { return api.Graph{N: n, Edges: edgesOf(ends...)} }

// count is the numbers from 0 to n - 1.
func count(n int) []int {
	l := make([]int, n)
	for i := range l {
		l[i] = i
	}
	return l
}

// most is a graph of n vertices that has as many edges as may be.
func most(n int) api.Graph {
	g := api.Graph{N: n}
	for a := 0; len(g.Edges) < api.MaxEdges; a++ {
		for b := a + 1; b < n && len(g.Edges) < api.MaxEdges; b++ {
			g.Edges = append(g.Edges, api.Edge{A: a, B: b})
		}
	}
	return g
}

// others is the numbers from 0 to n - 1 that are not in l.
func others(n int, l []int) []int {
	return slices.DeleteFunc(count(n), func(v int) bool { return slices.Contains(l, v) })
}

// turned is l backwards, the other end of each edge first.
func turned(l []api.Edge) []api.Edge {
	back := slices.Clone(l)
	slices.Reverse(back)
	for i, e := range back {
		back[i] = api.Edge{A: e.B, B: e.A}
	}
	return back
}

func same(g, h api.Graph) bool { return g.N == h.N && slices.Equal(g.Edges, h.Edges) }

// isZero tells whether an answer beside an error has nothing.
func isZero(g api.Graph, was []int) bool { return g.N == 0 && len(g.Edges) == 0 && len(was) == 0 }

// call is Keep or Without.
type call func(api.Graph, []int) (api.Graph, []int, api.Errno)

func wantKept(t *testing.T, what string, do call, g api.Graph, l []int, want api.Graph, wantWas []int) {
	t.Helper()
	got, was, err := do(g, l)
	if err != api.OK || !same(got, want) || !slices.Equal(was, wantWas) {
		t.Errorf("%s, %v: %v, %v, error %d, want %v, %v", what, l, got, was, err, want, wantWas)
	}
	if !graph.Right(got) {
		t.Errorf("%s, %v: %v is not right", what, l, got)
	}
}

func wantLess(t *testing.T, what string, g api.Graph, l []api.Edge, want api.Graph) {
	t.Helper()
	got, err := sub.Less(g, l)
	if err != api.OK || !same(got, want) {
		t.Errorf("%s: Less(%v): %v, error %d, want %v", what, l, got, err, want)
	}
	if !graph.Right(got) {
		t.Errorf("%s: Less(%v): %v is not right", what, l, got)
	}
}

// wantRefused: Keep and Without refuse alike.
func wantRefused(t *testing.T, what string, g api.Graph, l []int, want api.Errno) {
	t.Helper()
	if got, was, err := sub.Keep(g, l); err != want || !isZero(got, was) {
		t.Errorf("%s: Keep: %v, %v, error %d, want error %d and nothing else", what, got, was, err, want)
	}
	if got, was, err := sub.Without(g, l); err != want || !isZero(got, was) {
		t.Errorf("%s: Without: %v, %v, error %d, want error %d and nothing else", what, got, was, err, want)
	}
}

func wantLessRefused(t *testing.T, what string, g api.Graph, l []api.Edge, want api.Errno) {
	t.Helper()
	if got, err := sub.Less(g, l); err != want || !isZero(got, nil) {
		t.Errorf("%s: Less: %v, error %d, want error %d and nothing else", what, got, err, want)
	}
}

// wrongGraphs are graphs that are not right, by what is wrong with them.
func wrongGraphs() map[string]api.Graph {
	long := most(400)
	long.Edges = append(long.Edges, api.Edge{A: 398, B: 399})
	return map[string]api.Graph{
		"fewer than no vertices":     {N: -1},
		"far fewer than no vertices": {N: math.MinInt, Edges: edgesOf(0, 1)},
		"a vertex too many":          {N: api.MaxVertices + 1, Edges: edgesOf(0, 1)},
		"far too many vertices":      {N: math.MaxInt, Edges: edgesOf(0, 1)},
		"an edge too many":           long,
		"a loop":                     graphOf(4, 0, 1, 1, 1),
		"a turned edge":              graphOf(4, 0, 1, 3, 2),
		"an end beyond":              graphOf(4, 0, 1, 2, 4),
		"an end far beyond":          graphOf(4, 0, 1, 2, math.MaxInt),
		"an end below 0":             graphOf(4, -1, 2, 0, 1),
		"an edge of no vertices":     graphOf(0, 0, 1),
		"edges that fall":            graphOf(4, 1, 2, 0, 1),
		"an edge twice":              graphOf(4, 0, 1, 0, 1),
	}
}

// P5.1

func TestKeep(t *testing.T) {
	triangle := graphOf(3, 0, 1, 0, 2, 1, 2)
	path := graphOf(5, 0, 1, 1, 2, 2, 3, 3, 4)
	for _, c := range []struct {
		what string
		g    api.Graph
		l    []int
		want api.Graph
		was  []int
	}{
		{"nothing of nothing", api.Graph{}, nil, api.Graph{}, nil},
		{"nothing of one", graphOf(1), []int{}, api.Graph{}, nil},
		{"nothing of a triangle", triangle, nil, api.Graph{}, nil},
		{"one of a triangle", triangle, []int{1}, graphOf(1), []int{1}},
		{"1 and 2 of a triangle", triangle, []int{1, 2}, graphOf(2, 0, 1), []int{1, 2}},
		{"2 and 0 of a triangle", triangle, []int{2, 0}, graphOf(2, 0, 1), []int{0, 2}},
		{"all of a triangle", triangle, []int{2, 0, 1}, triangle, []int{0, 1, 2}},
		{"all of a path, falling", path, []int{4, 3, 2, 1, 0}, path, count(5)},
		{"ends of a path", path, []int{4, 0}, graphOf(2), []int{0, 4}},
		{"every other one of a path", path, []int{0, 2, 4}, graphOf(3), []int{0, 2, 4}},
		{"the first of a path", path, []int{0, 1, 2}, graphOf(3, 0, 1, 1, 2), []int{0, 1, 2}},
		{"the last of a path", path, []int{3, 4, 2}, graphOf(3, 0, 1, 1, 2), []int{2, 3, 4}},
		{"a path with a gap", path, []int{4, 0, 3, 1}, graphOf(4, 0, 1, 2, 3), []int{0, 1, 3, 4}},
		{"vertices without edges", graphOf(6), []int{5, 0}, graphOf(2), []int{0, 5}},
		{"edges that cross", graphOf(6, 0, 5, 1, 3, 1, 4, 2, 5, 3, 5), []int{5, 3, 1, 2}, graphOf(4, 0, 2, 1, 3, 2, 3), []int{1, 2, 3, 5}},
	} {
		wantKept(t, c.what, sub.Keep, c.g, c.l, c.want, c.was)
	}
}

func TestWithout(t *testing.T) {
	triangle := graphOf(3, 0, 1, 0, 2, 1, 2)
	path := graphOf(5, 0, 1, 1, 2, 2, 3, 3, 4)
	for _, c := range []struct {
		what string
		g    api.Graph
		l    []int
		want api.Graph
		was  []int
	}{
		{"nothing of nothing", api.Graph{}, []int{}, api.Graph{}, nil},
		{"nothing of one", graphOf(1), nil, graphOf(1), []int{0}},
		{"nothing of a triangle", triangle, nil, triangle, []int{0, 1, 2}},
		{"one of a triangle", triangle, []int{0}, graphOf(2, 0, 1), []int{1, 2}},
		{"two of a triangle", triangle, []int{2, 0}, graphOf(1), []int{1}},
		{"all of a triangle", triangle, []int{1, 2, 0}, api.Graph{}, nil},
		{"the middle of a path", path, []int{2}, graphOf(4, 0, 1, 2, 3), []int{0, 1, 3, 4}},
		{"the last of a path", path, []int{4}, graphOf(4, 0, 1, 1, 2, 2, 3), count(4)},
		{"every other one of a path", path, []int{3, 1}, graphOf(3), []int{0, 2, 4}},
		{"vertices without edges", graphOf(4), []int{2, 1}, graphOf(2), []int{0, 3}},
	} {
		wantKept(t, c.what, sub.Without, c.g, c.l, c.want, c.was)
	}
}

func TestVerticesAreRefused(t *testing.T) {
	g := graphOf(4, 0, 1, 1, 2, 2, 3)
	for _, c := range []struct {
		what string
		g    api.Graph
		l    []int
		want api.Errno
	}{
		{"one below 0", g, []int{-1}, api.ErrVertex},
		{"one beyond", g, []int{4}, api.ErrVertex},
		{"one far below 0", g, []int{0, math.MinInt}, api.ErrVertex},
		{"one far beyond", g, []int{0, math.MaxInt, 1}, api.ErrVertex},
		{"one of a word's room beyond", g, []int{63}, api.ErrVertex},
		{"one of no vertices", api.Graph{}, []int{0}, api.ErrVertex},
		{"one beyond the most", api.Graph{N: api.MaxVertices}, []int{api.MaxVertices}, api.ErrVertex},
		{"one beyond, twice", g, []int{7, 7}, api.ErrVertex},
		{"one beyond ahead of one twice", g, []int{4, 1, 1}, api.ErrVertex},
		{"one beyond behind one twice", g, []int{1, 1, 4}, api.ErrVertex},
		{"one below 0 far behind one twice", g, []int{1, 1, 0, 2, 3, -1}, api.ErrVertex},
		{"one beyond between two alike", g, []int{1, 4, 1}, api.ErrVertex},
		{"one twice", g, []int{1, 1}, api.ErrTwice},
		{"0 twice", graphOf(1), []int{0, 0}, api.ErrTwice},
		{"one twice, not in a row", g, []int{3, 1, 2, 3}, api.ErrTwice},
		{"one twice, then others", g, []int{1, 1, 2, 3, 0}, api.ErrTwice},
		{"all twice", g, []int{0, 1, 2, 3, 0, 1, 2, 3}, api.ErrTwice},
		{"the last of the most, twice", api.Graph{N: api.MaxVertices}, []int{api.MaxVertices - 1, api.MaxVertices - 1}, api.ErrTwice},
	} {
		wantRefused(t, c.what, c.g, c.l, c.want)
	}
}

func TestLess(t *testing.T) {
	g := graphOf(4, 0, 1, 0, 3, 1, 2, 2, 3)
	for _, c := range []struct {
		what string
		g    api.Graph
		l    []api.Edge
		want api.Graph
	}{
		{"nothing of nothing", api.Graph{}, nil, api.Graph{}},
		{"nothing of vertices without edges", graphOf(3), []api.Edge{}, graphOf(3)},
		{"nothing of a ring", g, nil, g},
		{"one", g, edgesOf(0, 3), graphOf(4, 0, 1, 1, 2, 2, 3)},
		{"one, the other end first", g, edgesOf(3, 0), graphOf(4, 0, 1, 1, 2, 2, 3)},
		{"the first", g, edgesOf(1, 0), graphOf(4, 0, 3, 1, 2, 2, 3)},
		{"the last", g, edgesOf(2, 3), graphOf(4, 0, 1, 0, 3, 1, 2)},
		{"two, not as they rise", g, edgesOf(2, 3, 1, 0), graphOf(4, 0, 3, 1, 2)},
		{"all", g, g.Edges, graphOf(4)},
		{"all, turned", g, turned(g.Edges), graphOf(4)},
	} {
		wantLess(t, c.what, c.g, c.l, c.want)
	}
}

func TestEdgesAreRefused(t *testing.T) {
	g := graphOf(4, 0, 1, 0, 3, 1, 2, 2, 3)
	for _, c := range []struct {
		what string
		l    []api.Edge
	}{
		{"one that is not there", edgesOf(0, 2)},
		{"one that is not there, turned", edgesOf(3, 1)},
		{"one that is not there, behind others", edgesOf(0, 1, 2, 3, 1, 3)},
		{"one that is not there, ahead of others", edgesOf(1, 3, 2, 3)},
		{"a loop", edgesOf(1, 1)},
		{"an end beyond", edgesOf(0, 4)},
		{"an end below 0", edgesOf(-1, 0)},
		{"both ends far off", edgesOf(math.MaxInt, math.MinInt)},
		{"a loop beyond", edgesOf(9, 9)},
		{"one twice", edgesOf(0, 1, 0, 1)},
		{"one twice, turned", edgesOf(0, 1, 1, 0)},
		{"one twice, not in a row", edgesOf(3, 2, 0, 1, 1, 2, 2, 3)},
		{"all twice", slices.Concat(g.Edges, g.Edges)},
	} {
		wantLessRefused(t, c.what, g, c.l, api.ErrNone)
	}
	wantLessRefused(t, "one of no vertices", api.Graph{}, edgesOf(0, 1), api.ErrNone)
	wantLessRefused(t, "one of vertices without edges", graphOf(2), edgesOf(0, 1), api.ErrNone)
}

func TestOfAWrongGraph(t *testing.T) {
	for what, g := range wrongGraphs() {
		for _, l := range [][]int{nil, {}, {0}, {1, 0}, {0, 0}, {-1}, {math.MaxInt, 2, 2}} {
			wantRefused(t, what, g, l, api.ErrGraph)
		}
		for _, l := range [][]api.Edge{nil, {}, edgesOf(0, 1), edgesOf(0, 1, 1, 0), edgesOf(7, -7)} {
			wantLessRefused(t, what, g, l, api.ErrGraph)
		}
	}
}

func TestOfTheMostVertices(t *testing.T) {
	last := api.MaxVertices - 1
	path := api.Graph{N: api.MaxVertices}
	for v := range last {
		path.Edges = append(path.Edges, api.Edge{A: v, B: v + 1})
	}
	all := count(api.MaxVertices)
	back := slices.Clone(all)
	slices.Reverse(back)
	shorter := api.Graph{N: last, Edges: path.Edges[:last-1]}
	wantKept(t, "all of the most", sub.Keep, path, back, path, all)
	wantKept(t, "none out of the most", sub.Without, path, nil, path, all)
	wantKept(t, "all out of the most", sub.Without, path, back, api.Graph{}, nil)
	wantKept(t, "all but the first", sub.Keep, path, back[:last], shorter, all[1:])
	wantKept(t, "the first out", sub.Without, path, []int{0}, shorter, all[1:])
	wantKept(t, "the last out", sub.Without, path, []int{last}, shorter, all[:last])
	wantKept(t, "the last two", sub.Keep, path, []int{last, last - 1}, graphOf(2, 0, 1), all[last-1:])
	wantLess(t, "the last edge of the most vertices", path, edgesOf(last, last-1), api.Graph{N: path.N, Edges: path.Edges[:last-1]})
}

func TestOfTheMostEdges(t *testing.T) {
	g := most(400)
	half := api.MaxEdges / 2
	wantKept(t, "all of the most edges", sub.Keep, g, count(400), g, count(400))
	wantLess(t, "none of the most edges", g, nil, g)
	wantLess(t, "all of the most edges", g, turned(g.Edges), api.Graph{N: 400})
	wantLess(t, "half of the most edges", g, turned(g.Edges[half:]), api.Graph{N: 400, Edges: g.Edges[:half]})
	wantLess(t, "the other half", g, turned(g.Edges[:half]), api.Graph{N: 400, Edges: g.Edges[half:]})
	wantLessRefused(t, "one more than there are", g, append(turned(g.Edges), g.Edges[0]), api.ErrNone)
}

// R3: what is handed in, with the room behind its end, stays as it was and is not kept.

func TestWhatIsHandedInStays(t *testing.T) {
	keptEdges := edgesOf(0, 4, 1, 2, 2, 4, 9, 8, 7, 7)
	edges := slices.Clone(keptEdges)
	g := api.Graph{N: 5, Edges: edges[:3]}
	keptList := []int{4, 2, 0, 2, -3, 77}
	list := slices.Clone(keptList)
	keptLess := edgesOf(4, 2, 0, 4, 4, 0, 1, 1)
	less := slices.Clone(keptLess)
	for n := range list {
		sub.Keep(g, list[:n])
		sub.Without(g, list[:n])
	}
	for n := range less {
		sub.Less(g, less[:n])
	}
	if !slices.Equal(edges, keptEdges) || !slices.Equal(list, keptList) || !slices.Equal(less, keptLess) {
		t.Errorf("handed in, then %v, %v, %v", edges, list, less)
	}
}

// spoil writes over a list and the room behind its end.
func spoil[T any](l []T, by T) {
	l = l[:cap(l)]
	for i := range l {
		l[i] = by
	}
}

func TestWhatIsHandedOutIsNew(t *testing.T) {
	for what, l := range map[string][]int{"some": {2, 0, 1}, "none": nil, "all": {0, 1, 2, 3}} {
		for name, do := range map[string]call{"Keep": sub.Keep, "Without": sub.Without} {
			g, list := graphOf(4, 0, 1, 0, 3, 1, 2, 2, 3), slices.Clone(l)
			first, firstWas, _ := do(g, list)
			spoil(first.Edges, api.Edge{A: -7, B: -7})
			spoil(firstWas, -7)
			if !same(g, graphOf(4, 0, 1, 0, 3, 1, 2, 2, 3)) || !slices.Equal(list, l) {
				t.Errorf("%s of %s: an answer written into, the graph is %v, the list %v", name, what, g, list)
			}
			second, was, _ := do(g, list)
			want, wantWas, _ := do(g, list)
			spoil(g.Edges, api.Edge{A: -7, B: -7})
			spoil(list, -7)
			if !same(second, want) || !slices.Equal(was, wantWas) || !graph.Right(second) {
				t.Errorf("%s of %s: the graph written into, the answer is %v, %v", name, what, second, was)
			}
		}
	}
}

func TestWhatLessHandsOutIsNew(t *testing.T) {
	for what, l := range map[string][]api.Edge{"none": nil, "the first": edgesOf(1, 0), "the last": edgesOf(2, 3)} {
		g := graphOf(4, 0, 1, 0, 3, 1, 2, 2, 3)
		first, _ := sub.Less(g, l)
		spoil(first.Edges, api.Edge{A: -7, B: -7})
		if !same(g, graphOf(4, 0, 1, 0, 3, 1, 2, 2, 3)) {
			t.Errorf("Less of %s: the answer written into, the graph is %v", what, g)
		}
		second, _ := sub.Less(g, l)
		spoil(g.Edges, api.Edge{A: -7, B: -7})
		if len(second.Edges) != 4-len(l) || !graph.Right(second) {
			t.Errorf("Less of %s: the graph written into, the answer is %v", what, second)
		}
	}
}

// chosen is those of l whose bits are in mask.
func chosen[T any](l []T, mask int) []T {
	var some []T
	for i, x := range l {
		if mask>>i&1 == 1 {
			some = append(some, x)
		}
	}
	return some
}

// joinedAs is the graph of the vertices of was, which rise, joined pair by pair as they are in g: the definition.
func joinedAs(g api.Graph, was []int) api.Graph {
	kept := api.Graph{N: len(was)}
	for a := range was {
		for b := a + 1; b < len(was); b++ {
			if slices.Contains(g.Edges, api.Edge{A: was[a], B: was[b]}) {
				kept.Edges = append(kept.Edges, api.Edge{A: a, B: b})
			}
		}
	}
	return kept
}

// What follows: what is kept is joined as it was.
func TestOfAllSmallGraphs(t *testing.T) {
	for n := range 6 {
		edges := joinedAll(n)
		for mask := range 1 << len(edges) {
			g := api.Graph{N: n, Edges: chosen(edges, mask)}
			checkVerticesOf(t, g)
			checkEdgesOf(t, g)
			if t.Failed() {
				return
			}
		}
	}
}

// joinedAll is the edges of the whole graph of n vertices.
func joinedAll(n int) []api.Edge {
	var l []api.Edge
	for a := range n {
		for b := a + 1; b < n; b++ {
			l = append(l, api.Edge{A: a, B: b})
		}
	}
	return l
}

// checkVerticesOf holds Keep and Without of every set of vertices of g, either way round, against the definition.
func checkVerticesOf(t *testing.T, g api.Graph) {
	t.Helper()
	for mask := range 1 << g.N {
		some := chosen(count(g.N), mask)
		rest := others(g.N, some)
		kept, left := joinedAs(g, some), joinedAs(g, rest)
		back := slices.Clone(some)
		slices.Reverse(back)
		for _, l := range [][]int{some, back} {
			wantKept(t, "Keep of a small graph", sub.Keep, g, l, kept, some)
			wantKept(t, "Without of a small graph", sub.Without, g, l, left, rest)
		}
	}
}

// checkEdgesOf holds Less of some sets of edges of g against the definition.
func checkEdgesOf(t *testing.T, g api.Graph) {
	t.Helper()
	all := 1<<len(g.Edges) - 1
	for _, mask := range []int{0, all, all & 0x155, all & 0x2aa, all & 0x1b6, all & 0x31c} {
		want := api.Graph{N: g.N, Edges: chosen(g.Edges, all&^mask)}
		out := chosen(g.Edges, mask)
		wantLess(t, "a small graph", g, out, want)
		wantLess(t, "a small graph, turned", g, turned(out), want)
		if len(out) > 0 {
			wantLessRefused(t, "a small graph, one twice", g, append(turned(out), out[0]), api.ErrNone)
		}
		for _, e := range joinedAll(g.N) {
			if !slices.Contains(g.Edges, e) {
				wantLessRefused(t, "a small graph, one that is not there", g, append(turned(out), e), api.ErrNone)
			}
		}
	}
}

func TestOfGraphsOfChance(t *testing.T) {
	seed := uint32(5)
	next := func(n int) int {
		seed = seed*1664525 + 1013904223
		return int(seed>>8) % n
	}
	for range 30 {
		n := 65 + next(80)
		g := api.Graph{N: n}
		var out, left []api.Edge
		for _, e := range joinedAll(n) {
			switch next(8) {
			case 0:
				g.Edges, out = append(g.Edges, e), append(out, e)
			case 1:
				g.Edges, left = append(g.Edges, e), append(left, e)
			}
		}
		some := slices.DeleteFunc(count(n), func(int) bool { return next(2) == 0 })
		rest := others(n, some)
		wantKept(t, "Keep of a graph of chance", sub.Keep, g, some, joinedAs(g, some), some)
		wantKept(t, "Without of a graph of chance", sub.Without, g, some, joinedAs(g, rest), rest)
		wantLess(t, "a graph of chance", g, turned(out), api.Graph{N: n, Edges: left})
	}
}
