package single_test

import (
	"slices"
	"testing"

	"garland/api"
	"garland/greedy"
	"garland/samples"
	"garland/single"
)

// labelled is n vertices, all with that label.
func labelled(n, label int) []int { return slices.Repeat([]int{label}, n) }

// joins are the joined vertices of a graph, each edge either way.
func joins(g api.Graph) map[api.Arc]bool {
	joined := map[api.Arc]bool{}
	for _, e := range g.Edges {
		joined[api.Arc{From: e.A, To: e.B}] = true
		joined[api.Arc{From: e.B, To: e.A}] = true
	}
	return joined
}

// augments is the definition of chapter 9, word by word; mate is right for g.
func augments(g api.Graph, mate, path []int) bool {
	if len(path) < 2 || mate[path[0]] != -1 || mate[path[len(path)-1]] != -1 {
		return false
	}
	joined, seen := joins(g), map[int]bool{path[0]: true}
	for i := 1; i < len(path); i++ {
		v, w := path[i-1], path[i]
		if seen[w] || !joined[api.Arc{From: v, To: w}] || (mate[v] == w) != (i%2 == 0) {
			return false
		}
		seen[w] = true
	}
	return true
}

// reached are the vertices to which alternating paths of an even, and of an odd number of edges
// lead from free vertices: all of these paths are gone along, one by one.
type reached struct {
	near      [][]int
	mate      []int
	on        []bool
	even, odd []bool
}

func reachedOf(g api.Graph, mate []int) *reached {
	r := &reached{near: make([][]int, g.N), mate: mate, on: make([]bool, g.N), even: make([]bool, g.N), odd: make([]bool, g.N)}
	for _, e := range g.Edges {
		r.near[e.A] = append(r.near[e.A], e.B)
		r.near[e.B] = append(r.near[e.B], e.A)
	}
	for v, w := range mate {
		if w == -1 {
			r.goOn(v, 0)
		}
	}
	return r
}

// goOn comes to v by so many edges, and goes on along the matching, if that many are odd, and else not along it.
func (r *reached) goOn(v, edges int) {
	if r.on[v] {
		return
	}
	r.on[v] = true
	if edges%2 == 1 {
		r.odd[v] = true
		if r.mate[v] != -1 {
			r.goOn(r.mate[v], edges+1)
		}
	} else {
		r.even[v] = true
		for _, w := range r.near[v] {
			if r.mate[v] != w {
				r.goOn(w, edges+1)
			}
		}
	}
	r.on[v] = false
}

// label is the definition of the chapter, word by word.
func (r *reached) label(v int) int {
	switch {
	case r.even[v]:
		return api.Even
	case r.odd[v]:
		return api.Odd
	}
	return api.Out
}

// hasPath tells whether a path that augments is among all these.
func (r *reached) hasPath() bool {
	for v, w := range r.mate {
		if w == -1 && r.odd[v] {
			return true
		}
	}
	return false
}

// P11.1: where no path augments

// wantLabels: no path augments, and these are the labels.
func wantLabels(t *testing.T, what string, g api.Graph, mate, want []int) {
	t.Helper()
	path, labels, err := single.Path(g, mate)
	if err != api.OK || len(path) != 0 || !slices.Equal(labels, want) {
		t.Errorf("%s: path %v, labels %v, error %d, want %v", what, path, labels, err, want)
	}
}

func TestLabels(t *testing.T) {
	for _, c := range []struct {
		what       string
		g          api.Graph
		mate, want []int
	}{
		{"no vertices", api.Graph{}, nil, nil},
		{"no vertices, empty lists", api.Graph{Edges: []api.Edge{}}, []int{}, nil},
		{"one vertex", samples.Made(1), samples.Mate(1), labelled(1, api.Even)},
		{"vertices without edges", samples.Made(5), samples.Mate(5), labelled(5, api.Even)},
		{"all have mates", samples.Made(2, 0, 1), samples.Mate(2, 0, 1), labelled(2, api.Out)},
		{"all of a ring have mates", samples.Ring(6), samples.Mate(6, 0, 5, 1, 2, 3, 4), labelled(6, api.Out)},
		{"all joined, all have mates", samples.Whole(6), samples.Mate(6, 0, 5, 1, 2, 3, 4), labelled(6, api.Out)},
		{"an edge, and one alone", samples.Made(3, 0, 1), samples.Mate(3, 0, 1), []int{api.Out, api.Out, api.Even}},
		{"a row of three", samples.Row(3), samples.Mate(3, 0, 1), []int{api.Even, api.Odd, api.Even}},
		{"a row of three, its other edge", samples.Row(3), samples.Mate(3, 1, 2), []int{api.Even, api.Odd, api.Even}},
		{"a row of five, free in the middle", samples.Row(5), samples.Mate(5, 0, 1, 3, 4), []int{api.Even, api.Odd, api.Even, api.Odd, api.Even}},
		{"a star", samples.Star(4), samples.Mate(4, 0, 2), []int{api.Odd, api.Even, api.Even, api.Even}},
		{"two middles", samples.WholeSides(2, 4), samples.Mate(6, 0, 3, 1, 5), []int{api.Odd, api.Odd, api.Even, api.Even, api.Even, api.Even}},
		{"a triangle", samples.Ring(3), samples.Mate(3, 0, 2), labelled(3, api.Even)},
		{"a ring of nine", samples.Ring(9), samples.Midst(9), labelled(9, api.Even)},
		{"all joined, one free", samples.Whole(7), samples.Mate(7, 0, 6, 1, 3, 2, 5), labelled(7, api.Even)},
		{"two triangles with one vertex in common", samples.Made(5, 0, 1, 0, 2, 1, 2, 2, 3, 2, 4, 3, 4), samples.Mate(5, 0, 1, 3, 4), labelled(5, api.Even)},
		{"two triangles, the free one not in common", samples.Made(5, 0, 1, 0, 2, 1, 2, 2, 3, 2, 4, 3, 4), samples.Mate(5, 1, 2, 3, 4), labelled(5, api.Even)},
		{"a triangle that hangs on one who has a mate", samples.Made(5, 0, 1, 0, 2, 1, 2, 0, 3, 3, 4), samples.Mate(5, 1, 2, 3, 4), []int{api.Even, api.Even, api.Even, api.Odd, api.Even}},
		{"three pieces", samples.Made(8, 0, 1, 2, 3, 2, 4, 3, 4, 5, 6, 5, 7), samples.Mate(8, 0, 1, 2, 4, 5, 7), []int{api.Out, api.Out, api.Even, api.Even, api.Even, api.Odd, api.Even, api.Even}},
		{"behind one that is Odd all may have mates", samples.Made(5, 0, 1, 0, 2, 0, 3, 3, 4), samples.Mate(5, 0, 1, 3, 4), []int{api.Odd, api.Even, api.Even, api.Out, api.Out}},
		{"an odd ring, whole, behind one that is Odd", samples.Made(7, 0, 1, 0, 2, 0, 3, 3, 4, 3, 5, 4, 5, 5, 6), samples.Mate(7, 0, 1, 3, 4, 5, 6), []int{api.Odd, api.Even, api.Even, api.Out, api.Out, api.Out, api.Out}},
	} {
		wantLabels(t, c.what, c.g, c.mate, c.want)
	}
}

func TestLabelsOfFlowers(t *testing.T) {
	for _, stem := range []int{2, 4, 8} {
		for _, ring := range []int{3, 5, 7, 9} {
			// The last vertex is joined with one of the stem that is Odd, and so is of no use.
			for at := 1; at < stem; at += 2 {
				g, mate := samples.Flower(stem, ring, at)
				want := labelled(g.N, api.Even)
				for v := 1; v < stem; v += 2 {
					want[v] = api.Odd
				}
				wantLabels(t, "a flower", g, mate, want)
			}
		}
	}
}

func TestLabelsOfNests(t *testing.T) {
	for rungs := 1; rungs < 30; rungs++ {
		g, mate := samples.Nest(rungs, 2*rungs)
		g.N--
		g.Edges = slices.DeleteFunc(g.Edges, func(e api.Edge) bool { return e.B == g.N })
		wantLabels(t, "a nest", g, mate[:g.N], labelled(g.N, api.Even))
	}
}

// P11.1: where one does

// wantPath: a path that augments is told, and nothing else.
func wantPath(t *testing.T, what string, g api.Graph, mate []int) []int {
	t.Helper()
	path, labels, err := single.Path(g, mate)
	if err != api.OK || len(labels) != 0 || !augments(g, mate, path) {
		t.Errorf("%s: path %v, labels %v, error %d", what, path, labels, err)
	}
	return path
}

func TestPath(t *testing.T) {
	for _, c := range []struct {
		what string
		g    api.Graph
		mate []int
	}{
		{"one edge, none matched", samples.Made(2, 0, 1), samples.Mate(2)},
		{"a star, none matched", samples.Star(5), samples.Mate(5)},
		{"all joined, none matched", samples.Whole(5), samples.Mate(5)},
		{"all joined, two free", samples.Whole(6), samples.Mate(6, 0, 4, 2, 3)},
		{"a row of four", samples.Row(4), samples.Midst(4)},
		{"a row of four, its ends in the midst", samples.Made(4, 0, 3, 0, 1, 2, 3), samples.Mate(4, 0, 3)},
		{"a row of ten", samples.Row(10), samples.Midst(10)},
		{"a ring of four, two edges left", samples.Ring(4), samples.Mate(4, 1, 2)},
		{"two triangles, joined, free at the edge", samples.Made(6, 0, 1, 0, 2, 1, 2, 2, 3, 3, 4, 3, 5, 4, 5), samples.Mate(6, 0, 1, 4, 5)},
		{"two triangles, joined, free afar", samples.Made(6, 0, 1, 0, 2, 1, 2, 2, 3, 3, 4, 3, 5, 4, 5), samples.Mate(6, 1, 2, 3, 4)},
		{"two triangles, joined by a row", samples.Made(8, 0, 1, 0, 2, 1, 2, 2, 6, 6, 7, 7, 3, 3, 4, 3, 5, 4, 5), samples.Mate(8, 1, 2, 6, 7, 3, 4)},
		{"two rings of five, joined afar from what is free", samples.Made(10, 0, 1, 1, 2, 2, 3, 3, 4, 4, 0, 5, 6, 6, 7, 7, 8, 8, 9, 9, 5, 3, 7), samples.Mate(10, 1, 2, 3, 4, 6, 7, 8, 9)},
		{"a triangle on either side of a row", samples.Made(7, 0, 1, 1, 2, 0, 2, 2, 3, 3, 4, 4, 5, 5, 6, 4, 6, 1, 3), samples.Mate(7, 1, 2, 5, 6)},
		{"only the last of three pieces", samples.Made(9, 0, 1, 2, 3, 2, 4, 3, 4, 5, 6, 6, 7, 7, 8), samples.Mate(9, 0, 1, 2, 4, 6, 7)},
		{"petersen's, as few as cannot be added to", samples.Petersen(), samples.Mate(10, 0, 1, 2, 3, 6, 8, 7, 9)},
	} {
		wantPath(t, c.what, c.g, c.mate)
	}
}

func TestPathThroughFlowers(t *testing.T) {
	for _, stem := range []int{0, 2, 4, 8} {
		for _, ring := range []int{3, 5, 7, 9} {
			for at := stem; at < stem+ring; at++ {
				g, mate := samples.Flower(stem, ring, at)
				path := wantPath(t, "a flower", g, mate)
				// The stem, the part of the ring that is odd in number up to at, and the last one.
				part := at - stem + 1
				if part%2 == 0 {
					part = ring + 2 - part
				}
				if len(path) != stem+part+1 {
					t.Errorf("a flower of %d and %d, at %d: %v", stem, ring, at, path)
				}
			}
		}
	}
}

func TestPathOutOfNests(t *testing.T) {
	for rungs := 1; rungs < 30; rungs++ {
		for at := range 2*rungs + 1 {
			g, mate := samples.Nest(rungs, at)
			wantPath(t, "a nest", g, mate)
		}
	}
	g, mate := samples.Nest(api.MaxVertices/2-1, api.MaxVertices-3)
	wantPath(t, "the greatest nest", g, mate)
}

func TestLongPaths(t *testing.T) {
	n := api.MaxVertices
	if path := wantPath(t, "the longest row", samples.Row(n), samples.Midst(n)); len(path) != n {
		t.Errorf("the longest row: a path of %d", len(path))
	}
	wantPath(t, "the longest ring", samples.Ring(n), samples.Midst(n))
	wantLabels(t, "the longest odd ring", samples.Ring(n-1), samples.Midst(n-1), labelled(n-1, api.Even))
	for _, at := range []int{n - 2, n - 3, n / 2, n/2 + 1} {
		g, mate := samples.Flower(0, n-1, at)
		wantPath(t, "the longest ring of a flower", g, mate)
		g, mate = samples.Flower(n-4, 3, max(at, n-4))
		wantPath(t, "the longest stem of a flower", g, mate)
	}
	g := samples.MostOfBoth()
	wantPath(t, "the most of both", g, samples.Midst(n))
	wantLabels(t, "the most of both, all matched", g, greedy.First(g), labelled(n, api.Out))
	wantLabels(t, "as many vertices as may be", samples.Made(n), samples.Mate(n), labelled(n, api.Even))
}

// P11.1, held against the definitions

// checkPath tells whether there was a path.
func checkPath(t *testing.T, g api.Graph, mate []int) bool {
	t.Helper()
	path, labels, err := single.Path(g, mate)
	r := reachedOf(g, mate)
	if err != api.OK || r.hasPath() != (len(path) > 0) {
		t.Fatalf("Path(%v, %v): path %v, error %d", g, mate, path, err)
	}
	if len(path) > 0 {
		if len(labels) != 0 || !augments(g, mate, path) {
			t.Fatalf("Path(%v, %v): path %v, labels %v", g, mate, path, labels)
		}
		return true
	}
	if len(labels) != g.N {
		t.Fatalf("Path(%v, %v): labels %v", g, mate, labels)
	}
	for v, label := range labels {
		if label != r.label(v) {
			t.Fatalf("Path(%v, %v): labels %v: that of %d", g, mate, labels, v)
		}
	}
	return false
}

// What follows: where no path augments the matching is largest; and the other way round.
func TestPathOfAllSmallGraphs(t *testing.T) {
	for n := range 7 {
		samples.EachGraph(n, func(g api.Graph) {
			all := samples.EachMatching(g)
			largest := 0
			for _, mate := range all {
				largest = max(largest, samples.Size(mate))
			}
			for _, mate := range all {
				if there := checkPath(t, g, mate); there != (samples.Size(mate) < largest) {
					t.Fatalf("Path(%v, %v): a path: %v", g, mate, there)
				}
			}
		})
	}
}

func TestPathOfSomeGraphs(t *testing.T) {
	for seed := range uint32(300) {
		n := 7 + int(seed)%5
		g := samples.Scattered(seed, n, n+int(seed/5)%n)
		mate := samples.Mate(n)
		for checkPath(t, g, mate) {
			path, _, _ := single.Path(g, mate)
			mate = samples.Flipped(mate, path)
		}
	}
}

// P11.1: what is refused

func TestPathOfAWrongGraph(t *testing.T) {
	for what, g := range samples.WrongGraphs() {
		lists := [][]int{nil, {}, {1, 0}, samples.Mate(4), {1, 0, -1, -1}, {7, 7, 7, 7}}
		if g.N >= 0 && g.N <= api.MaxVertices+1 {
			lists = append(lists, samples.Mate(g.N))
		}
		for _, mate := range lists {
			if path, labels, err := single.Path(g, mate); err != api.ErrGraph || len(path) != 0 || len(labels) != 0 {
				t.Errorf("%s: path %v, %d labels, error %d", what, path, len(labels), err)
			}
		}
	}
}

func TestPathOfAWrongMatching(t *testing.T) {
	for what, mate := range samples.WrongMatchings() {
		if path, labels, err := single.Path(samples.Row(5), mate); err != api.ErrMatching || len(path) != 0 || len(labels) != 0 {
			t.Errorf("%s: path %v, labels %v, error %d", what, path, labels, err)
		}
	}
	for _, mate := range [][]int{{-1}, {0}, {1, 0}} {
		if path, labels, err := single.Path(api.Graph{}, mate); err != api.ErrMatching || len(path) != 0 || len(labels) != 0 {
			t.Errorf("no vertices, %v: path %v, labels %v, error %d", mate, path, labels, err)
		}
	}
}

// P11.2

// wantLargest: a right matching of that size is told, by searches each of which but the last
// makes that of greedy.First larger by one, and no more looks than may be, nor fewer than must be.
func wantLargest(t *testing.T, what string, g api.Graph, size int) {
	t.Helper()
	mate, effort, err := single.Largest(g)
	if err != api.OK || !samples.IsMatching(g, mate) || samples.Size(mate) != size {
		t.Fatalf("%s: %d edges, error %d, want %d", what, samples.Size(mate), err, size)
	}
	if effort.Rounds != size-samples.Size(greedy.First(g))+1 || effort.Rounds > g.N+1 {
		t.Fatalf("%s: %d rounds", what, effort.Rounds)
	}
	if effort.Looks > 8*len(g.Edges) || effort.Rounds > 1 && effort.Looks == 0 {
		t.Fatalf("%s: %d looks, %d edges, %d rounds", what, effort.Looks, len(g.Edges), effort.Rounds)
	}
	wantLooks(t, what, g, mate, effort.Looks)
}

// wantLooks: the last search finds no path, and sees so only if it looks at every edge that has an end that is Even.
func wantLooks(t *testing.T, what string, g api.Graph, mate []int, looks int) {
	t.Helper()
	path, labels, err := single.Path(g, mate)
	if err != api.OK || len(path) != 0 || len(labels) != g.N {
		t.Fatalf("%s: of the largest a path %v, error %d", what, path, err)
	}
	atEven := 0
	for _, e := range g.Edges {
		if labels[e.A] == api.Even || labels[e.B] == api.Even {
			atEven++
		}
	}
	if looks < atEven {
		t.Fatalf("%s: %d looks, and %d edges must be looked at", what, looks, atEven)
	}
}

func TestLargest(t *testing.T) {
	for _, c := range []struct {
		what string
		g    api.Graph
		size int
	}{
		{"no vertices", api.Graph{}, 0},
		{"no vertices, an empty list", api.Graph{Edges: []api.Edge{}}, 0},
		{"one vertex", samples.Made(1), 0},
		{"vertices without edges", samples.Made(6), 0},
		{"one edge", samples.Made(2, 0, 1), 1},
		{"one edge, and others alone", samples.Made(5, 1, 3), 1},
		{"the chapter's example", samples.Ring(3), 1},
		{"a star", samples.Star(6), 1},
		{"two triangles, joined", samples.Made(6, 0, 1, 0, 2, 1, 2, 2, 3, 3, 4, 3, 5, 4, 5), 3},
		{"two triangles with one vertex in common", samples.Made(5, 0, 1, 0, 2, 1, 2, 2, 3, 2, 4, 3, 4), 2},
		{"three triangles on one vertex", samples.Made(10, 0, 1, 1, 2, 0, 2, 3, 4, 4, 5, 3, 5, 6, 7, 7, 8, 6, 8, 9, 0, 9, 3, 9, 6), 4},
		{"petersen's", samples.Petersen(), 5},
		{"three sides of one, one, and eight", samples.Made(10, 0, 1, 0, 2, 0, 3, 0, 4, 1, 5, 1, 6, 1, 7, 1, 8, 1, 9), 2},
		{"three pieces", samples.Made(11, 0, 1, 1, 2, 2, 3, 4, 5, 4, 6, 5, 6, 7, 8, 7, 9, 7, 10), 4},
		{"a row that is begun in its midst", samples.Fours(1), 2},
		{"seven rows that are begun in their midst", samples.Fours(7), 14},
	} {
		wantLargest(t, c.what, c.g, c.size)
	}
	for n := 2; n < 20; n++ {
		wantLargest(t, "a row", samples.Row(n), n/2)
		wantLargest(t, "all joined", samples.Whole(n), n/2)
		wantLargest(t, "a ring", samples.Ring(n+1), (n+1)/2)
		for a := range n {
			wantLargest(t, "two whole sides", samples.WholeSides(a, n-a), min(a, n-a))
		}
	}
}

func TestLargestOfFlowersAndNests(t *testing.T) {
	for k := 1; k < 12; k++ {
		for at := range 2*k + 3 {
			g, _ := samples.Flower(2, 2*k+1, at)
			size := k + 1
			if at != 1 {
				size++
			}
			wantLargest(t, "a flower", g, size)
		}
		for at := range 2*k + 1 {
			g, _ := samples.Nest(k, at)
			wantLargest(t, "a nest", g, k+1)
		}
	}
}

func TestLargestOfAllSmallGraphs(t *testing.T) {
	for n := range 7 {
		samples.EachGraph(n, func(g api.Graph) {
			largest := 0
			for _, mate := range samples.EachMatching(g) {
				largest = max(largest, samples.Size(mate))
			}
			wantLargest(t, "a small graph", g, largest)
		})
	}
}

// oddPieces is how many pieces of an odd number of vertices g has without those so labelled.
func oddPieces(g api.Graph, labels []int, without int) int {
	top := make([]int, g.N)
	for v := range top {
		top[v] = v
	}
	find := func(v int) int {
		for top[v] != v {
			v = top[v]
		}
		return v
	}
	for _, e := range g.Edges {
		if labels[e.A] != without && labels[e.B] != without {
			top[find(e.A)] = find(e.B)
		}
	}
	odd := make([]int, g.N)
	for v := range top {
		if labels[v] != without {
			odd[find(v)] ^= 1
		}
	}
	return sum(odd)
}

func sum(l []int) int {
	total := 0
	for _, x := range l {
		total += x
	}
	return total
}

// Each odd piece that is left without the vertices that are Odd has one that is free, or whose mate is one of these:
// where there are so many more of the pieces as are free, no matching is larger.
func TestLargestOfGreaterGraphs(t *testing.T) {
	for seed := range uint32(500) {
		n := 2 + int(seed)%90
		g := samples.Scattered(seed, n, n/2+int(seed*7)%(2*n))
		mate, _, _ := single.Largest(g)
		_, labels, err := single.Path(g, mate)
		if err != api.OK || len(labels) != n {
			t.Fatalf("the seed %d: Path of the largest: %d labels, error %d", seed, len(labels), err)
		}
		odd := 0
		for _, label := range labels {
			if label == api.Odd {
				odd++
			}
		}
		if free := n - 2*samples.Size(mate); free != oddPieces(g, labels, api.Odd)-odd {
			t.Fatalf("the seed %d: %d are free", seed, free)
		}
		wantLargest(t, "a greater graph", g, samples.Size(mate))
	}
}

func TestLargestOfTheMost(t *testing.T) {
	n := api.MaxVertices
	nested, _ := samples.Nest(n/2-1, n-3)
	flowered, _ := samples.Flower(n/2, n/2-1, n-3)
	for _, c := range []struct {
		what string
		g    api.Graph
		size int
	}{
		{"no edges", samples.Made(n), 0},
		{"the longest row", samples.Row(n), n / 2},
		{"the longest ring", samples.Ring(n), n / 2},
		{"the longest odd ring", samples.Ring(n - 1), n/2 - 1},
		{"the greatest star", samples.Star(n), 1},
		{"the greatest nest", nested, n / 2},
		{"the greatest flower", flowered, n / 2},
		{"all joined that could be", samples.Whole(362), 181},
		{"the most of both", samples.MostOfBoth(), n / 2},
		{"many for few", samples.WholeSides(16, n-16), 16},
		// Were the looks of all searches told, and not those of one, there would be too many.
		{"as many searches as a greedy beginning leaves", samples.Fours(n / 4), n / 2},
	} {
		wantLargest(t, c.what, c.g, c.size)
	}
}

func TestLargestOfAWrongGraph(t *testing.T) {
	for what, g := range samples.WrongGraphs() {
		if mate, effort, err := single.Largest(g); err != api.ErrGraph || len(mate) != 0 || effort != (api.Effort{}) {
			t.Errorf("%s: %d mates, %+v, error %d", what, len(mate), effort, err)
		}
	}
}

// R2: what is answered hangs on what is asked alone.
func TestTheSameAgain(t *testing.T) {
	for seed := range uint32(40) {
		g := samples.Scattered(seed, 30, 45)
		mate, effort, _ := single.Largest(g)
		path, labels, _ := single.Path(g, samples.Mate(30))
		_, last, _ := single.Path(g, mate)
		again, sameEffort, _ := single.Largest(g)
		samePath, sameLabels, _ := single.Path(g, samples.Mate(30))
		_, sameLast, _ := single.Path(g, mate)
		if !slices.Equal(mate, again) || effort != sameEffort || !slices.Equal(path, samePath) || !slices.Equal(labels, sameLabels) || !slices.Equal(last, sameLast) {
			t.Errorf("the seed %d: not the same again", seed)
		}
	}
}

// R3: what is handed in, with the room behind its end, stays as it was and is not kept.

func TestWhatIsHandedInStays(t *testing.T) {
	g, mate := samples.Flower(2, 5, 4)
	edges := append(slices.Clone(g.Edges), api.Edge{A: 9, B: 8}, api.Edge{A: 7, B: 7})
	keptEdges := slices.Clone(edges)
	list := append(slices.Clone(mate), 77, -3)
	for count := range len(edges) + 1 {
		h := api.Graph{N: g.N, Edges: edges[:count]}
		single.Largest(h)
		for n := range len(list) + 1 {
			kept := slices.Clone(list)
			single.Path(h, list[:n])
			if !slices.Equal(list, kept) {
				t.Fatalf("mates handed in, then %v", list)
			}
		}
	}
	if !slices.Equal(edges, keptEdges) {
		t.Errorf("edges handed in, then %v", edges)
	}
}

func TestWhatIsToldIsNew(t *testing.T) {
	plain, plainMate := samples.Flower(2, 5, 4)
	for _, mate := range [][]int{plainMate, samples.Mate(8, 0, 1, 2, 3, 4, 7, 5, 6)} {
		g, given := api.Graph{N: plain.N, Edges: slices.Clone(plain.Edges)}, slices.Clone(mate)
		path, labels, _ := single.Path(g, given)
		largest, _, _ := single.Largest(g)
		keptPath, keptLabels, keptLargest := slices.Clone(path), slices.Clone(labels), slices.Clone(largest)
		samples.Spoil(path, -7)
		samples.Spoil(labels, -7)
		samples.Spoil(largest, -7)
		if !slices.Equal(g.Edges, plain.Edges) || !slices.Equal(given, mate) {
			t.Errorf("answers written into, then %v, %v", g, given)
		}
		path, labels, _ = single.Path(g, given)
		largest, _, _ = single.Largest(g)
		samples.Spoil(g.Edges, api.Edge{A: -7, B: -7})
		samples.Spoil(given, -7)
		if !slices.Equal(path, keptPath) || !slices.Equal(labels, keptLabels) || !slices.Equal(largest, keptLargest) {
			t.Errorf("what was handed in written into, then %v, %v, %v", path, labels, largest)
		}
	}
}
