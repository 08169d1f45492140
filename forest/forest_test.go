package forest_test

import (
	"slices"
	"testing"

	"garland/api"
	"garland/forest"
)

// flowered is a forest of 0 to 7, pairs 1 2, 3 4 and 5 6, that has grown from its roots 0 and 7 along 0 1, 2 3
// and 2 5: a stem of 0, 1 and 2, and a ring of 2, 3, 4, 6 and 5 that 4 6 would close; and 7 by itself.
func flowered() (*forest.Forest, []int) {
	mate := []int{-1, 2, 1, 4, 3, 6, 5, -1}
	f := forest.Bare(mate)
	f.Root(0)
	f.Root(7)
	f.Grow(0, 1)
	f.Grow(2, 3)
	f.Grow(2, 5)
	return f, mate
}

func want(t *testing.T, what string, got, want []int) {
	t.Helper()
	if !slices.Equal(got, want) {
		t.Errorf("%s: %v, want %v", what, got, want)
	}
}

// each is what ask tells of each of n vertices.
func each(n int, ask func(v int) int) []int {
	var list []int
	for v := range n {
		list = append(list, ask(v))
	}
	return list
}

func TestBare(t *testing.T) {
	f := forest.Bare([]int{-1, 2, 1})
	want(t, "labels", f.Labels(), []int{api.Out, api.Out, api.Out})
	want(t, "bases", each(3, f.Base), []int{0, 1, 2})
	if !f.IsFree(0) || f.IsFree(1) || f.Looks != 0 {
		t.Errorf("0 free: %v, 1 free: %v, %d looks", f.IsFree(0), f.IsFree(1), f.Looks)
	}
	f.Root(0)
	want(t, "labels with a root", f.Labels(), []int{api.Even, api.Out, api.Out})
	want(t, "labels of nothing", forest.Bare(nil).Labels(), nil)
}

func TestGrow(t *testing.T) {
	f := forest.Bare([]int{-1, 2, 1, -1})
	f.Root(0)
	if even := f.Grow(0, 1); even != 2 {
		t.Errorf("grown to 1, Even is %d", even)
	}
	want(t, "labels", f.Labels(), []int{api.Even, api.Odd, api.Even, api.Out})
	want(t, "lengths", each(3, f.Length), []int{0, 1, 2})
	want(t, "climbed", f.Climb(2, forest.None), []int{2, 1, 0})
	want(t, "climbed nowhere", f.Climb(2, 2), []int{2})
	if f.Looks != 2 {
		t.Errorf("%d looks", f.Looks)
	}
}

func TestMeet(t *testing.T) {
	f, _ := flowered()
	for _, c := range [][3]int{{4, 6, 2}, {6, 4, 2}, {4, 2, 2}, {2, 6, 2}, {0, 4, 0}, {4, 4, 4}, {7, 0, forest.None}, {4, 7, forest.None}, {7, 6, forest.None}} {
		if top := f.Meet(c[0], c[1]); top != c[2] {
			t.Errorf("%d and %d meet at %d, want %d", c[0], c[1], top, c[2])
		}
	}
}

func TestClose(t *testing.T) {
	f, _ := flowered()
	want(t, "lengths of what is open", each(8, f.Length), []int{0, 1, 2, 3, 4, 3, 4, 0})
	want(t, "Even by a cycle", f.Close(4, 6, 2), []int{3, 5})
	want(t, "labels", f.Labels(), []int{api.Even, api.Odd, api.Even, api.Even, api.Even, api.Even, api.Even, api.Even})
	want(t, "bases", each(8, f.Base), []int{0, 1, 2, 2, 2, 2, 2, 7})
	want(t, "lengths", each(8, f.Length), []int{0, 1, 2, 6, 4, 6, 4, 0})
	want(t, "down one side, up the other", f.Climb(3, forest.None), []int{3, 4, 6, 5, 2, 1, 0})
	want(t, "up to the base alone", f.Climb(5, 2), []int{5, 6, 4, 3, 2})
	want(t, "from one root to the other", f.Through(3, 7), []int{0, 1, 2, 5, 6, 4, 3, 7})
	want(t, "and back", f.Through(7, 3), []int{7, 3, 4, 6, 5, 2, 1, 0})
}

// One side of a cycle at a time: those next to the top come last.
func TestDraw(t *testing.T) {
	mate := []int{-1, 2, 1, 4, 3}
	f := forest.Bare(mate)
	f.Root(0)
	f.Grow(0, 1)
	f.Grow(2, 3)
	want(t, "Even by a cycle", f.Draw(api.Arc{From: 4, To: 0}, 0), []int{3, 1})
	want(t, "bases", each(5, f.Base), []int{0, 0, 0, 0, 0})
	want(t, "lengths", each(5, f.Length), []int{0, 4, 2, 2, 4})
	want(t, "the long way round", f.Climb(1, 0), []int{1, 2, 3, 4, 0})
	if f.Looks != 4+4 {
		t.Errorf("%d looks", f.Looks)
	}
}

// A cycle may have a blossom on it: who was Odd goes through that to the edge that closed its own one.
func TestCyclesWithinCycles(t *testing.T) {
	mate := []int{-1, 2, 1, 4, 3, 6, 5}
	f := forest.Bare(mate)
	f.Root(0)
	f.Grow(0, 1)
	f.Grow(2, 3)
	f.Grow(2, 5)
	want(t, "Even by the inner cycle", f.Close(4, 6, 2), []int{3, 5})
	want(t, "Even by the outer cycle", f.Close(3, 0, 0), []int{1})
	want(t, "bases", each(7, f.Base), []int{0, 0, 0, 0, 0, 0, 0})
	want(t, "round both", f.Climb(1, forest.None), []int{1, 2, 5, 6, 4, 3, 0})
	if f.Length(1) != 6 {
		t.Errorf("1 has %d edges", f.Length(1))
	}
}

func TestTheMatchingStays(t *testing.T) {
	f, mate := flowered()
	kept := slices.Clone(mate)
	f.Close(4, 6, 2)
	path := f.Through(3, 7)
	for i := range path {
		path[i] = -7
	}
	labels := f.Labels()
	for i := range labels {
		labels[i] = -7
	}
	want(t, "the matching", mate, kept)
	want(t, "told again", f.Through(3, 7), []int{0, 1, 2, 5, 6, 4, 3, 7})
	want(t, "labelled again", f.Labels(), []int{api.Even, api.Odd, api.Even, api.Even, api.Even, api.Even, api.Even, api.Even})
}
