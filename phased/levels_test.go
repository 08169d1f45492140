package phased_test

import (
	"slices"
	"testing"

	"garland/api"
	"garland/phased"
	"garland/samples"
)

// P12.2

func wantLevels(t *testing.T, what string, g api.Graph, mate, even, odd []int) {
	t.Helper()
	gotEven, gotOdd, err := phased.Levels(g, mate)
	if err != api.OK || !slices.Equal(gotEven, even) || !slices.Equal(gotOdd, odd) {
		t.Fatalf("%s: Levels(%v, %v): even %v, odd %v, error %d, want %v, %v", what, g, mate, gotEven, gotOdd, err, even, odd)
	}
}

func TestLevels(t *testing.T) {
	for _, c := range []struct {
		what            string
		g               api.Graph
		mate, even, odd []int
	}{
		{"no vertices", api.Graph{}, nil, nil, nil},
		{"no vertices, empty lists", api.Graph{Edges: []api.Edge{}}, []int{}, nil, nil},
		{"vertices without edges", samples.Made(3), samples.Mate(3), []int{0, 0, 0}, []int{-1, -1, -1}},
		{"one edge", samples.Made(2, 0, 1), samples.Mate(2), []int{0, 0}, []int{1, 1}},
		{"one edge, matched", samples.Made(2, 0, 1), samples.Mate(2, 0, 1), []int{-1, -1}, []int{-1, -1}},
		{"an edge, matched, and one alone", samples.Made(3, 1, 2), samples.Mate(3, 1, 2), []int{0, -1, -1}, []int{-1, -1, -1}},
		{"a star, none matched", samples.Star(4), samples.Mate(4), []int{0, 0, 0, 0}, []int{1, 1, 1, 1}},
		{"a star", samples.Star(4), samples.Mate(4, 0, 2), []int{-1, 0, 2, 0}, []int{1, -1, -1, -1}},
		{"a row of three", samples.Row(3), samples.Mate(3, 1, 2), []int{0, -1, 2}, []int{-1, 1, -1}},
		{"a row of four", samples.Row(4), samples.Midst(4), []int{0, 2, 2, 0}, []int{3, 1, 1, 3}},
		{"a triangle", samples.Ring(3), samples.Midst(3), []int{0, 2, 2}, []int{-1, 1, 1}},
		{"a ring of five", samples.Ring(5), samples.Midst(5), []int{0, 4, 2, 2, 4}, []int{-1, 1, 3, 3, 1}},
		{"a triangle on a stem", samples.Made(5, 0, 1, 1, 2, 2, 3, 2, 4, 3, 4), samples.Mate(5, 1, 2, 3, 4), []int{0, -1, 2, 4, 4}, []int{-1, 1, -1, 3, 3}},
		{"a triangle on a stem, left", samples.Made(6, 0, 1, 1, 2, 2, 3, 2, 4, 3, 4, 4, 5), samples.Mate(6, 1, 2, 3, 4), []int{0, 4, 2, 2, 4, 0}, []int{5, 1, 3, 3, 1, 5}},
		{"a ring in a ring", samples.Made(5, 0, 1, 0, 2, 1, 2, 1, 3, 2, 4, 3, 4), samples.Mate(5, 1, 2, 3, 4), []int{0, 2, 2, 4, 4}, []int{-1, 1, 1, 3, 3}},
		{"two ways to go round, one shorter", samples.Made(7, 0, 1, 1, 2, 2, 3, 3, 4, 4, 5, 5, 6, 6, 0, 2, 5), samples.Mate(7, 1, 2, 3, 4, 5, 6), []int{0, 4, 2, 4, 4, 2, 4}, []int{-1, 1, 3, 3, 3, 3, 1}},
		{"one free, that the other cannot come to", samples.Made(4, 0, 1, 1, 2, 1, 3), samples.Mate(4, 1, 3), []int{0, -1, 0, 2}, []int{-1, 1, -1, -1}},
		{"two pieces", samples.Made(5, 0, 1, 2, 3, 3, 4), samples.Mate(5, 0, 1, 3, 4), []int{-1, -1, 0, -1, 2}, []int{-1, -1, -1, 1, -1}},
	} {
		wantLevels(t, c.what, c.g, c.mate, c.even, c.odd)
	}
}

// levelsFrom are those that even numbers, and odd ones, have by at; -1 of those of which at says that there is none.
func levelsFrom(n int, at func(v int) (int, int)) (even, odd []int) {
	for v := range n {
		e, o := at(v)
		even, odd = append(even, e), append(odd, o)
	}
	return even, odd
}

// 24 vertices are not too many, with however many of them matched.
func TestLevelsOf24(t *testing.T) {
	even, odd := levelsFrom(24, func(v int) (int, int) { return v, 23 - v })
	for v := 1; v < 24; v += 2 {
		even[v], odd[v] = odd[v], even[v]
	}
	wantLevels(t, "a row of 24", samples.Row(24), samples.Midst(24), even, odd)
	for v := range 24 {
		even[v], odd[v] = 2, 1
	}
	even[0], even[23] = 0, 0
	wantLevels(t, "all of 24 joined", samples.Whole(24), samples.Midst(24), even, odd)
	wantLevels(t, "all of 24 joined, none matched", samples.Whole(24), samples.Mate(24), slices.Repeat([]int{0}, 24), slices.Repeat([]int{1}, 24))
	none := slices.Repeat([]int{-1}, 24)
	full := samples.Mate(24)
	for v := range full {
		full[v] = v ^ 1
	}
	wantLevels(t, "all of 24 joined, all matched", samples.Whole(24), full, none, none)
	wantLevels(t, "24 without edges", samples.Made(24), samples.Mate(24), slices.Repeat([]int{0}, 24), none)
	even, odd = levelsFrom(23, func(v int) (int, int) { return v, 23 - v })
	for v := 1; v < 23; v += 2 {
		even[v], odd[v] = odd[v], even[v]
	}
	odd[0] = -1
	wantLevels(t, "a ring of 23", samples.Ring(23), samples.Midst(23), even, odd)
	even[1], odd[22] = 22, 1
	wantLevels(t, "a ring of 23, and one alone", api.Graph{N: 24, Edges: samples.Ring(23).Edges}, append(samples.Midst(23), -1), append(even, 0), append(odd, -1))
	for at := range 23 {
		g, mate := samples.Nest(11, at)
		even, odd = levelsOf(g, mate)
		wantLevels(t, "a nest of 24", g, mate, even, odd)
		g, mate = samples.Flower(8, 15, at)
		even, odd = levelsOf(g, mate)
		wantLevels(t, "a flower of 24", g, mate, even, odd)
	}
}

// P12.2, held against the definition

func TestLevelsOfAllSmallGraphs(t *testing.T) {
	for n := range 7 {
		samples.EachGraph(n, func(g api.Graph) {
			for _, mate := range samples.EachMatching(g) {
				even, odd := levelsOf(g, mate)
				wantLevels(t, "a small graph", g, mate, even, odd)
			}
		})
	}
}

func TestLevelsOfSomeGraphs(t *testing.T) {
	for seed := range uint32(1500) {
		n := 7 + int(seed)%8
		g := samples.Scattered(seed, n, n/2+int(seed/5)%n)
		mate := samples.Mate(n)
		for {
			even, odd := levelsOf(g, mate)
			wantLevels(t, "some graph", g, mate, even, odd)
			paths, _, err := phased.Phase(g, mate)
			if err != api.OK {
				t.Fatalf("the seed %d: Phase: error %d", seed, err)
			}
			if len(paths) == 0 {
				break
			}
			mate = samples.Flipped(mate, paths[0])
		}
	}
}

// P12.2: what is refused

func wantNoLevels(t *testing.T, what string, g api.Graph, mate []int, want api.Errno) {
	t.Helper()
	if even, odd, err := phased.Levels(g, mate); err != want || len(even) != 0 || len(odd) != 0 {
		t.Errorf("%s: even %v, odd %v, error %d, want %d", what, even, odd, err, want)
	}
}

func TestLevelsOfAWrongGraph(t *testing.T) {
	for what, g := range samples.WrongGraphs() {
		for _, mate := range [][]int{nil, {}, {1, 0}, samples.Mate(4), {1, 0, -1, -1}, {7, 7, 7, 7}, samples.Mate(400), samples.Mate(api.MaxVertices + 1)} {
			wantNoLevels(t, what, g, mate, api.ErrGraph)
		}
	}
}

func TestLevelsOfAWrongMatching(t *testing.T) {
	for what, mate := range samples.WrongMatchings() {
		wantNoLevels(t, what, samples.Row(5), mate, api.ErrMatching)
	}
	wantNoLevels(t, "no vertices", api.Graph{}, []int{-1}, api.ErrMatching)
	wantNoLevels(t, "too many vertices, and no list", samples.Row(25), nil, api.ErrMatching)
	wantNoLevels(t, "too many vertices, and one too few", samples.Row(25), samples.Mate(24), api.ErrMatching)
	wantNoLevels(t, "too many vertices, and mates that are not joined", samples.Row(25), samples.Mate(25, 0, 2), api.ErrMatching)
}

func TestLevelsOfTooManyVertices(t *testing.T) {
	n := api.MaxVertices
	for _, g := range []api.Graph{samples.Made(25), samples.Row(25), samples.Ring(25), samples.Whole(25), samples.Made(26), samples.Row(100), samples.Made(n), samples.Row(n), samples.MostOfBoth()} {
		wantNoLevels(t, "too many vertices, none matched", g, samples.Mate(g.N), api.ErrLimit)
	}
	wantNoLevels(t, "too many vertices", samples.Row(25), samples.Midst(25), api.ErrLimit)
	wantNoLevels(t, "too many vertices, all matched", samples.Row(26), samples.Mate(26, 0, 1, 2, 3, 4, 5, 6, 7, 8, 9, 10, 11, 12, 13, 14, 15, 16, 17, 18, 19, 20, 21, 22, 23, 24, 25), api.ErrLimit)
}
