package samples_test

import (
	"testing"

	"garland/api"
	"garland/graph"
	"garland/mates"
	"garland/samples"
)

func TestGraphs(t *testing.T) {
	flower, _ := samples.Flower(2, 5, 4)
	nest, _ := samples.Nest(3, 6)
	for _, c := range []struct {
		what     string
		g        api.Graph
		n, edges int
	}{
		{"made of nothing", samples.Made(0), 0, 0},
		{"made in no order", samples.Made(4, 3, 2, 1, 0, 0, 3), 4, 3},
		{"a row of one", samples.Row(1), 1, 0},
		{"a row", samples.Row(5), 5, 4},
		{"a ring", samples.Ring(5), 5, 5},
		{"a star", samples.Star(5), 5, 4},
		{"all joined", samples.Whole(5), 5, 10},
		{"more than may be joined", samples.Whole(400), 400, api.MaxEdges},
		{"whole sides", samples.WholeSides(2, 3), 5, 6},
		{"petersen's", samples.Petersen(), 10, 15},
		{"a flower", flower, 8, 8},
		{"a nest", nest, 8, 10},
		{"rows of four", samples.Fours(3), 12, 9},
		{"the most of both", samples.MostOfBoth(), api.MaxVertices, api.MaxEdges},
	} {
		if !graph.Right(c.g) || c.g.N != c.n || len(c.g.Edges) != c.edges {
			t.Errorf("%s: %d vertices, %d edges, right: %v", c.what, c.g.N, len(c.g.Edges), graph.Right(c.g))
		}
	}
	for seed := range uint32(50) {
		if g := samples.Scattered(seed, 20, 40); !graph.Right(g) || g.N != 20 || len(g.Edges) < 20 {
			t.Errorf("scattered by %d: %v", seed, g)
		}
	}
}

func TestEachIsTold(t *testing.T) {
	graphs, matchings := 0, 0
	samples.EachGraph(4, func(g api.Graph) {
		graphs++
		for _, mate := range samples.EachMatching(g) {
			matchings++
			if !graph.Right(g) || !mates.Right(g, mate) || !samples.IsMatching(g, mate) || samples.Size(mate) != mates.Size(mate) {
				t.Errorf("%v, %v", g, mate)
			}
		}
	})
	// One of no edges in each; of one in half of them, for each of six; of two in a quarter, for each of three.
	if graphs != 64 || matchings != 64+6*32+3*16 {
		t.Errorf("%d graphs, %d matchings", graphs, matchings)
	}
}

func TestMatchings(t *testing.T) {
	g, mate := samples.Flower(2, 5, 4)
	if !mates.Right(g, mate) || mates.Size(mate) != 3 {
		t.Errorf("a flower: %v", mate)
	}
	if mate = samples.Flipped(mate, []int{0, 1, 2, 3, 4, 7}); !mates.Right(g, mate) || mates.Size(mate) != 4 {
		t.Errorf("flipped: %v", mate)
	}
	if g, mate = samples.Nest(3, 6); !mates.Right(g, mate) || mates.Size(mate) != 3 {
		t.Errorf("a nest: %v", mate)
	}
}

func TestWrong(t *testing.T) {
	for what, g := range samples.WrongGraphs() {
		if graph.Right(g) {
			t.Errorf("%s: right", what)
		}
	}
	for what, mate := range samples.WrongMatchings() {
		if mates.Right(samples.Row(5), mate) || samples.IsMatching(samples.Row(5), mate) {
			t.Errorf("%s: right", what)
		}
	}
}

func TestSpoil(t *testing.T) {
	room := []int{1, 2, 3}
	samples.Spoil(room[:1], -7)
	if room[0] != -7 || room[2] != -7 {
		t.Errorf("spoiled: %v", room)
	}
}
