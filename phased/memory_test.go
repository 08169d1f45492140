package phased_test

import (
	"slices"
	"testing"

	"garland/api"
	"garland/phased"
	"garland/samples"
)

// told is all that the calls tell of a graph and a matching.
type told struct {
	paths              [][]int
	looks              int
	largest, even, odd []int
	effort             api.Effort
}

func toldOf(g api.Graph, mate []int) told {
	var x told
	x.paths, x.looks, _ = phased.Phase(g, mate)
	x.largest, x.effort, _ = phased.Largest(g)
	x.even, x.odd, _ = phased.Levels(g, mate)
	return x
}

func (x told) same(y told) bool {
	return slices.EqualFunc(x.paths, y.paths, slices.Equal[[]int]) && x.looks == y.looks && x.effort == y.effort &&
		slices.Equal(x.largest, y.largest) && slices.Equal(x.even, y.even) && slices.Equal(x.odd, y.odd)
}

// R2: what is answered hangs on what is asked alone.
func TestTheSameAgain(t *testing.T) {
	var first []told
	for round := range 2 {
		for seed := range uint32(60) {
			g := samples.Scattered(seed, 22, 33)
			x := toldOf(g, samples.Mate(22))
			if round == 0 {
				first = append(first, x)
			} else if !x.same(first[seed]) {
				t.Errorf("the seed %d: not the same again", seed)
			}
		}
	}
}

// R3: what is handed in, with the room behind its end, stays as it was and is not kept.

func TestWhatIsHandedInStays(t *testing.T) {
	g, mate := samples.Flower(2, 5, 4)
	edges := append(slices.Clone(g.Edges), api.Edge{A: 9, B: 8}, api.Edge{A: 7, B: 7})
	keptEdges := slices.Clone(edges)
	for _, list := range [][]int{append(slices.Clone(mate), 77, -3), append(samples.Mate(g.N), 77, -3)} {
		kept := slices.Clone(list)
		for count := range len(edges) + 1 {
			h := api.Graph{N: g.N, Edges: edges[:count]}
			for n := range len(list) + 1 {
				toldOf(h, list[:n])
				if !slices.Equal(list, kept) {
					t.Fatalf("mates handed in, then %v", list)
				}
			}
		}
	}
	if !slices.Equal(edges, keptEdges) {
		t.Errorf("edges handed in, then %v", edges)
	}
}

// spoil writes over all lists.
func (x told) spoil() {
	for _, path := range x.paths {
		samples.Spoil(path, -7)
	}
	samples.Spoil(x.paths, nil)
	samples.Spoil(x.largest, -7)
	samples.Spoil(x.even, -7)
	samples.Spoil(x.odd, -7)
}

func TestWhatIsToldIsNew(t *testing.T) {
	flowered, free := samples.Flower(2, 5, 4)
	for _, c := range []struct {
		g    api.Graph
		mate []int
	}{
		{flowered, free},
		{flowered, samples.Mate(8, 0, 1, 2, 3, 4, 7, 5, 6)},
		{samples.Fours(4), samples.Mate(16, 0, 4, 1, 5, 2, 6, 3, 7)},
		{samples.Made(3), samples.Mate(3)},
	} {
		g, given := api.Graph{N: c.g.N, Edges: slices.Clone(c.g.Edges)}, slices.Clone(c.mate)
		want := toldOf(c.g, c.mate)
		toldOf(g, given).spoil()
		if !slices.Equal(g.Edges, c.g.Edges) || !slices.Equal(given, c.mate) {
			t.Errorf("answers written into, then %v, %v", g, given)
		}
		x := toldOf(g, given)
		samples.Spoil(g.Edges, api.Edge{A: -7, B: -7})
		samples.Spoil(given, -7)
		if !x.same(want) {
			t.Errorf("what was handed in written into, then %+v, want %+v", x, want)
		}
	}
}

// No two lists of an answer share room: one written into, or made longer, changes no other.
func TestListsShareNothing(t *testing.T) {
	g := samples.Fours(4)
	mate := samples.Mate(16, 0, 4, 1, 5, 2, 6, 3, 7)
	want := toldOf(g, mate)
	for i := range want.paths {
		x := toldOf(g, mate)
		samples.Spoil(x.paths[i], -7)
		_ = append(x.paths[i], -7)
		x.paths[i] = want.paths[i]
		if !x.same(want) {
			t.Errorf("the path %d written into, then %v, want %v", i, x.paths, want.paths)
		}
	}
	x := toldOf(g, mate)
	samples.Spoil(x.even, -7)
	if !slices.Equal(x.odd, want.odd) {
		t.Errorf("even levels written into, then odd %v, want %v", x.odd, want.odd)
	}
}
