package phased_test

import (
	"slices"
	"testing"

	"garland/api"
	"garland/greedy"
	"garland/phased"
	"garland/samples"
	"garland/single"
)

// P12.1: Phase

// steps is how many edges all paths have.
func steps(paths [][]int) int {
	count := 0
	for _, path := range paths {
		count += len(path) - 1
	}
	return count
}

// checkPaths: each augments by so many edges, and no two have a vertex in common.
// It tells on which vertices they are.
func checkPaths(t *testing.T, what string, g api.Graph, mate []int, paths [][]int, edges int) []bool {
	t.Helper()
	near, on := samples.Near(g), make([]bool, g.N)
	for _, path := range paths {
		if len(path) != edges+1 || mate[path[0]] != -1 || mate[path[len(path)-1]] != -1 {
			t.Fatalf("%s: path %v, of %d edges wanted", what, path, edges)
		}
		for i, v := range path {
			if on[v] {
				t.Fatalf("%s: paths %v: %d again", what, paths, v)
			}
			on[v] = true
			if i > 0 && (!slices.Contains(near[v], path[i-1]) || (mate[v] == path[i-1]) != (i%2 == 0)) {
				t.Fatalf("%s: path %v: at %d", what, path, v)
			}
		}
	}
	return on
}

// wantPhase: that many paths of that many edges are told, and no more looks than may be, nor fewer than must be.
func wantPhase(t *testing.T, what string, g api.Graph, mate []int, count, edges int) [][]int {
	t.Helper()
	paths, looks, err := phased.Phase(g, mate)
	if err != api.OK || len(paths) != count || looks > 32*len(g.Edges) || looks < steps(paths) {
		t.Fatalf("%s: %d paths, %d looks at %d edges, error %d, want %d", what, len(paths), looks, len(g.Edges), err, count)
	}
	checkPaths(t, what, g, mate, paths, edges)
	return paths
}

func TestPhase(t *testing.T) {
	bridged := samples.Made(6, 0, 1, 0, 2, 1, 2, 2, 3, 3, 4, 3, 5, 4, 5)
	for _, c := range []struct {
		what         string
		g            api.Graph
		mate         []int
		count, edges int
	}{
		{"no vertices", api.Graph{}, nil, 0, 0},
		{"no vertices, empty lists", api.Graph{Edges: []api.Edge{}}, []int{}, 0, 0},
		{"one vertex", samples.Made(1), samples.Mate(1), 0, 0},
		{"vertices without edges", samples.Made(5), samples.Mate(5), 0, 0},
		{"one edge, matched", samples.Made(2, 0, 1), samples.Mate(2, 0, 1), 0, 0},
		{"one edge", samples.Made(2, 0, 1), samples.Mate(2), 1, 1},
		{"the chapter's example", samples.Made(4, 0, 1, 2, 3), samples.Mate(4), 2, 1},
		{"a star", samples.Star(5), samples.Mate(5), 1, 1},
		{"a star, matched", samples.Star(5), samples.Mate(5, 0, 3), 0, 0},
		{"a ring of seven, none matched", samples.Ring(7), samples.Mate(7), 3, 1},
		{"a ring of seven, a largest one", samples.Ring(7), samples.Midst(7), 0, 0},
		{"all joined, none matched", samples.Whole(9), samples.Mate(9), 4, 1},
		{"all joined, a largest one", samples.Whole(5), samples.Mate(5, 0, 3, 1, 4), 0, 0},
		{"all joined, two free", samples.Whole(6), samples.Mate(6, 0, 4, 2, 3), 1, 1},
		{"a row of four", samples.Row(4), samples.Midst(4), 1, 3},
		{"a row of ten", samples.Row(10), samples.Midst(10), 1, 9},
		{"a row of ten, its middle matched", samples.Row(10), samples.Mate(10, 4, 5), 4, 1},
		{"a ring of four, two vertices left", samples.Ring(4), samples.Mate(4, 1, 2), 1, 1},
		{"seven rows", samples.Fours(7), greedy.First(samples.Fours(7)), 7, 3},
		{"three middles for five", samples.Made(8, 0, 3, 1, 4, 2, 5, 0, 5, 1, 5, 2, 6, 2, 7), samples.Mate(8, 2, 5), 2, 1},
		{"two ends that share the midst", samples.Made(6, 0, 1, 0, 2, 1, 3, 0, 4, 1, 5), samples.Mate(6, 0, 1), 1, 3},
		{"two triangles, joined, free at the edge", bridged, samples.Mate(6, 0, 1, 4, 5), 1, 1},
		{"two triangles, joined, free afar", bridged, samples.Mate(6, 1, 2, 3, 4), 1, 5},
		{"two rings of five, joined afar from what is free", samples.Made(10, 0, 1, 1, 2, 2, 3, 3, 4, 4, 0, 5, 6, 6, 7, 7, 8, 8, 9, 9, 5, 3, 7), samples.Mate(10, 1, 2, 3, 4, 6, 7, 8, 9), 1, 5},
		{"a triangle on either side of an edge that is left", samples.Made(8, 0, 1, 1, 2, 0, 2, 2, 3, 3, 4, 4, 5, 5, 6, 4, 6, 6, 7), samples.Mate(8, 1, 2, 5, 6), 1, 1},
		{"a triangle on either side of a row", samples.Made(8, 0, 1, 1, 2, 0, 2, 2, 3, 3, 4, 4, 5, 5, 6, 4, 6, 6, 7), samples.Mate(8, 1, 2, 3, 4, 5, 6), 1, 7},
		{"a ring come to both ways, left at its far end", samples.Made(8, 0, 1, 1, 2, 2, 3, 2, 6, 3, 4, 4, 5, 5, 6, 4, 7), samples.Mate(8, 1, 2, 3, 4, 5, 6), 1, 5},
		{"a ring come to both ways, left by the long way", samples.Made(8, 0, 1, 1, 2, 2, 3, 2, 6, 3, 4, 4, 5, 5, 6, 3, 7), samples.Mate(8, 1, 2, 3, 4, 5, 6), 1, 7},
		{"a cycle that a path goes through, and its vertex next to the root on another path", samples.Made(8, 0, 1, 1, 2, 2, 3, 0, 4, 0, 5, 4, 5, 4, 6, 5, 7), samples.Mate(8, 1, 2, 4, 5), 2, 3},
		{"petersen's, none matched but one", samples.Petersen(), samples.Mate(10, 0, 1), 4, 1},
	} {
		wantPhase(t, c.what, c.g, c.mate, c.count, c.edges)
	}
}

func TestPhaseThroughFlowers(t *testing.T) {
	for _, stem := range []int{0, 2, 4, 8} {
		for _, ring := range []int{3, 5, 7, 9} {
			for at := stem; at < stem+ring; at++ {
				g, mate := samples.Flower(stem, ring, at)
				// The stem, the part of the ring that is odd in number up to at, and the last one.
				part := at - stem + 1
				if part%2 == 0 {
					part = ring + 2 - part
				}
				wantPhase(t, "a flower", g, mate, 1, stem+part)
			}
			for at := 1; at < stem; at += 2 {
				g, mate := samples.Flower(stem, ring, at)
				wantPhase(t, "a flower, left where it is of no use", g, mate, 0, 0)
			}
		}
	}
}

// nestEdges is how many edges the path has that leads from 0 out of a nest at the number at: to the other
// one of its rung, two for each rung below, over the rung, and out.
func nestEdges(at int) int {
	if at == 0 {
		return 1
	}
	return (at+1)/2*2 + 1
}

func TestPhaseOutOfNests(t *testing.T) {
	for rungs := 1; rungs < 30; rungs++ {
		for at := range 2*rungs + 1 {
			g, mate := samples.Nest(rungs, at)
			paths, _, err := phased.Phase(g, mate)
			if err != api.OK || len(paths) != 1 {
				t.Fatalf("a nest of %d, at %d: %v, error %d", rungs, at, paths, err)
			}
			checkPaths(t, "a nest", g, mate, paths, nestEdges(at))
		}
	}
}

// rowsUpTo is rows of four vertices, six, and so on up to twice most. Their ends have the highest
// numbers, so that greedy.First takes all of a row but its ends.
func rowsUpTo(most int) api.Graph {
	var ends []int
	inner := most * (most - 1)
	next, last := 0, inner
	for k := 2; k <= most; k++ {
		row := []int{last}
		for range 2*k - 2 {
			row = append(row, next)
			next++
		}
		row = append(row, last+1)
		last += 2
		for i := 1; i < len(row); i++ {
			ends = append(ends, row[i-1], row[i])
		}
	}
	return samples.Made(last, ends...)
}

func TestPhasesOfPiecesOfSeveralLengths(t *testing.T) {
	g := rowsUpTo(9)
	mate := greedy.First(g)
	for k := 2; k <= 9; k++ {
		paths := wantPhase(t, "rows of several lengths", g, mate, 1, 2*k-1)
		mate = samples.Flipped(mate, paths[0])
	}
	wantPhase(t, "rows of several lengths, all matched", g, mate, 0, 0)
}

func TestLongPhases(t *testing.T) {
	n := api.MaxVertices
	wantPhase(t, "the longest row", samples.Row(n), samples.Midst(n), 1, n-1)
	wantPhase(t, "the longest ring", samples.Ring(n), samples.Midst(n), 1, 1)
	wantPhase(t, "the longest odd ring", samples.Ring(n-1), samples.Midst(n-1), 0, 0)
	wantPhase(t, "the longest row, none matched", samples.Row(n), samples.Mate(n), n/2, 1)
	for _, at := range []int{n - 2, n - 3, n / 2, n/2 + 1} {
		g, mate := samples.Flower(0, n-1, at)
		edges := at + 1
		if at%2 == 1 {
			edges = n - at
		}
		wantPhase(t, "the longest ring of a flower", g, mate, 1, edges)
	}
	g, mate := samples.Flower(n-4, 3, n-3)
	wantPhase(t, "the longest stem of a flower", g, mate, 1, n-1)
	g, mate = samples.Nest(n/2-1, n-3)
	wantPhase(t, "the greatest nest", g, mate, 1, nestEdges(n-3))
	wantPhase(t, "the most of rows", samples.Fours(n/4), greedy.First(samples.Fours(n/4)), n/4, 3)
	wantPhase(t, "as many vertices as may be", samples.Made(n), samples.Mate(n), 0, 0)
	wantPhase(t, "the most of both, all matched", samples.MostOfBoth(), greedy.First(samples.MostOfBoth()), 0, 0)
	wantPhase(t, "the most of both", samples.MostOfBoth(), samples.Mate(n), n/2, 1)
	wantPhase(t, "all joined that could be", samples.Whole(362), samples.Mate(362), 181, 1)
}

// P12.1, held against the document's words

// checkPhase holds a phase against the odd levels, and tells its paths.
func checkPhase(t *testing.T, g api.Graph, mate, even, odd []int) [][]int {
	t.Helper()
	paths, looks, err := phased.Phase(g, mate)
	edges := shortest(mate, odd)
	if err != api.OK || (len(paths) > 0) != (edges > 0) {
		t.Fatalf("Phase(%v, %v): paths %v, error %d; a shortest one has %d edges", g, mate, paths, err, edges)
	}
	if looks > 32*len(g.Edges) || looks < leastLooks(g, even, paths) {
		t.Fatalf("Phase(%v, %v): %d looks at %d edges", g, mate, looks, len(g.Edges))
	}
	if edges > 0 {
		on := checkPaths(t, "Phase", g, mate, paths, edges)
		checkFull(t, g, mate, paths, on, edges)
	}
	return paths
}

// leastLooks: that there is no path is not seen but by looking at every edge at a vertex to which an even path leads.
func leastLooks(g api.Graph, even []int, paths [][]int) int {
	if len(paths) > 0 {
		return steps(paths)
	}
	count := 0
	for _, e := range g.Edges {
		if even[e.A] != -1 || even[e.B] != -1 {
			count++
		}
	}
	return count
}

// checkFull: no other path of so many edges is apart from all that are told, as Phase says of itself.
func checkFull(t *testing.T, g api.Graph, mate []int, paths [][]int, on []bool, edges int) {
	t.Helper()
	w := walkerOf(g, mate, func(v, come int) {
		if come == edges && mate[v] == -1 {
			t.Fatalf("Phase(%v, %v): paths %v, and one more to %d", g, mate, paths, v)
		}
	})
	w.on, w.most = on, edges
	w.all()
}

func TestPhaseOfAllSmallGraphs(t *testing.T) {
	for n := range 7 {
		samples.EachGraph(n, func(g api.Graph) {
			for _, mate := range samples.EachMatching(g) {
				even, odd := levelsOf(g, mate)
				checkPhase(t, g, mate, even, odd)
			}
		})
	}
}

func TestPhasesOfSomeGraphs(t *testing.T) {
	for seed := range uint32(3000) {
		n := 7 + int(seed)%18
		g := samples.Scattered(seed, n, n/2+int(seed/5)%n)
		mate := samples.Mate(n)
		if seed%2 == 0 {
			mate = greedy.First(g)
		}
		for {
			even, odd, err := phased.Levels(g, mate)
			if err != api.OK {
				t.Fatalf("the seed %d: Levels: error %d", seed, err)
			}
			paths := checkPhase(t, g, mate, even, odd)
			if len(paths) == 0 {
				break
			}
			for _, path := range paths {
				mate = samples.Flipped(mate, path)
			}
		}
	}
}

// P12.1: what Phase refuses

func wantNoPhase(t *testing.T, what string, g api.Graph, mate []int, want api.Errno) {
	t.Helper()
	if paths, looks, err := phased.Phase(g, mate); err != want || len(paths) != 0 || looks != 0 {
		t.Errorf("%s: %d paths, %d looks, error %d, want %d", what, len(paths), looks, err, want)
	}
}

func TestPhaseOfAWrongGraph(t *testing.T) {
	for what, g := range samples.WrongGraphs() {
		lists := [][]int{nil, {}, {1, 0}, samples.Mate(4), {1, 0, -1, -1}, {7, 7, 7, 7}}
		if g.N >= 0 && g.N <= api.MaxVertices+1 {
			lists = append(lists, samples.Mate(g.N))
		}
		for _, mate := range lists {
			wantNoPhase(t, what, g, mate, api.ErrGraph)
		}
	}
}

func TestPhaseOfAWrongMatching(t *testing.T) {
	for what, mate := range samples.WrongMatchings() {
		wantNoPhase(t, what, samples.Row(5), mate, api.ErrMatching)
	}
	for _, mate := range [][]int{{-1}, {0}, {1, 0}} {
		wantNoPhase(t, "no vertices", api.Graph{}, mate, api.ErrMatching)
	}
}

// P12.1: Largest

// wantLargest: a right matching of that size is told, and the effort of its phases, from greedy.First on.
// What follows: each of them but the last makes it larger.
func wantLargest(t *testing.T, what string, g api.Graph, size int) api.Effort {
	t.Helper()
	mate, effort, err := phased.Largest(g)
	if err != api.OK || !samples.IsMatching(g, mate) || samples.Size(mate) != size {
		t.Fatalf("%s: %d edges, error %d, want %d", what, samples.Size(mate), err, size)
	}
	if effort.Rounds > g.N/2+1 || effort.Looks > 32*len(g.Edges) {
		t.Fatalf("%s: %+v, of %d vertices and %d edges", what, effort, g.N, len(g.Edges))
	}
	var want api.Effort
	now := greedy.First(g)
	for more := true; more; {
		paths, looks, err := phased.Phase(g, now)
		more = len(paths) > 0
		want.Rounds++
		want.Looks = max(want.Looks, looks)
		before := samples.Size(now)
		for _, path := range paths {
			now = samples.Flipped(now, path)
		}
		if err != api.OK || !samples.IsMatching(g, now) || samples.Size(now) != before+len(paths) {
			t.Fatalf("%s: a phase: %d paths, error %d, then %d edges", what, len(paths), err, samples.Size(now))
		}
	}
	if effort != want {
		t.Fatalf("%s: %+v, want %+v", what, effort, want)
	}
	return effort
}

func TestLargest(t *testing.T) {
	for _, c := range []struct {
		what string
		g    api.Graph
		size int
	}{
		{"no vertices", api.Graph{}, 0},
		{"no vertices, an empty list", api.Graph{Edges: []api.Edge{}}, 0},
		{"one vertex", samples.Made(1), 0},
		{"vertices without edges", samples.Made(6), 0},
		{"one edge", samples.Made(2, 0, 1), 1},
		{"one edge, and others alone", samples.Made(5, 1, 3), 1},
		{"a triangle", samples.Ring(3), 1},
		{"a star", samples.Star(6), 1},
		{"two triangles, joined", samples.Made(6, 0, 1, 0, 2, 1, 2, 2, 3, 3, 4, 3, 5, 4, 5), 3},
		{"two triangles with one vertex in common", samples.Made(5, 0, 1, 0, 2, 1, 2, 2, 3, 2, 4, 3, 4), 2},
		{"three triangles on one vertex", samples.Made(10, 0, 1, 1, 2, 0, 2, 3, 4, 4, 5, 3, 5, 6, 7, 7, 8, 6, 8, 9, 0, 9, 3, 9, 6), 4},
		{"petersen's", samples.Petersen(), 5},
		{"three sides of one, one, and eight", samples.Made(10, 0, 1, 0, 2, 0, 3, 0, 4, 1, 5, 1, 6, 1, 7, 1, 8, 1, 9), 2},
		{"three pieces", samples.Made(11, 0, 1, 1, 2, 2, 3, 4, 5, 4, 6, 5, 6, 7, 8, 7, 9, 7, 10), 4},
		{"a row that is begun in its midst", samples.Fours(1), 2},
		{"seven rows that are begun in their midst", samples.Fours(7), 14},
		{"rows of several lengths", rowsUpTo(12), 77},
	} {
		wantLargest(t, c.what, c.g, c.size)
	}
	for n := 2; n < 20; n++ {
		wantLargest(t, "a row", samples.Row(n), n/2)
		wantLargest(t, "all joined", samples.Whole(n), n/2)
		wantLargest(t, "a ring", samples.Ring(n+1), (n+1)/2)
		for a := range n {
			wantLargest(t, "two whole sides", samples.WholeSides(a, n-a), min(a, n-a))
		}
	}
}

func TestLargestOfFlowersAndNests(t *testing.T) {
	for k := 1; k < 12; k++ {
		for at := range 2*k + 3 {
			g, _ := samples.Flower(2, 2*k+1, at)
			size := k + 1
			if at != 1 {
				size++
			}
			wantLargest(t, "a flower", g, size)
		}
		for at := range 2*k + 1 {
			g, _ := samples.Nest(k, at)
			wantLargest(t, "a nest", g, k+1)
		}
	}
}

func TestLargestOfAllSmallGraphs(t *testing.T) {
	for n := range 7 {
		samples.EachGraph(n, func(g api.Graph) {
			largest := 0
			for _, mate := range samples.EachMatching(g) {
				largest = max(largest, samples.Size(mate))
			}
			wantLargest(t, "a small graph", g, largest)
		})
	}
}

// Both engines tell the same size.
func TestLargestOfGreaterGraphs(t *testing.T) {
	for seed := range uint32(500) {
		n := 2 + int(seed)%90
		g := samples.Scattered(seed, n, n/2+int(seed*7)%(2*n))
		mate, _, _ := single.Largest(g)
		wantLargest(t, "a greater graph", g, samples.Size(mate))
	}
	for seed := range uint32(10) {
		g := samples.Scattered(seed, 1000, 700+200*int(seed))
		mate, _, _ := single.Largest(g)
		wantLargest(t, "a far greater graph", g, samples.Size(mate))
	}
}

func TestLargestOfTheMost(t *testing.T) {
	n := api.MaxVertices
	nested, _ := samples.Nest(n/2-1, n-3)
	flowered, _ := samples.Flower(n/2, n/2-1, n-3)
	for _, c := range []struct {
		what string
		g    api.Graph
		size int
	}{
		{"no edges", samples.Made(n), 0},
		{"the longest row", samples.Row(n), n / 2},
		{"the longest ring", samples.Ring(n), n / 2},
		{"the longest odd ring", samples.Ring(n - 1), n/2 - 1},
		{"the greatest star", samples.Star(n), 1},
		{"the greatest nest", nested, n / 2},
		{"the greatest flower", flowered, n / 2},
		{"all joined that could be", samples.Whole(362), 181},
		{"the most of both", samples.MostOfBoth(), n / 2},
		{"many for few", samples.WholeSides(16, n-16), 16},
	} {
		wantLargest(t, c.what, c.g, c.size)
	}
	// One phase takes all rows; of rows of several lengths each length needs its own.
	if effort := wantLargest(t, "rows of four", samples.Fours(n/4), n/2); effort.Rounds != 2 {
		t.Errorf("rows of four: %+v", effort)
	}
	g := rowsUpTo(63)
	if effort := wantLargest(t, "rows of several lengths", g, g.N/2); effort.Rounds != 63 {
		t.Errorf("rows of several lengths: %+v", effort)
	}
}

func TestLargestOfAWrongGraph(t *testing.T) {
	for what, g := range samples.WrongGraphs() {
		if mate, effort, err := phased.Largest(g); err != api.ErrGraph || len(mate) != 0 || effort != (api.Effort{}) {
			t.Errorf("%s: %d mates, %+v, error %d", what, len(mate), effort, err)
		}
	}
}
