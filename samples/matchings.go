package samples

import (
	"slices"

	"garland/api"
)

// Mate is the matching of n vertices of these edges.
func Mate(n int, ends ...int) []int {
	mate := slices.Repeat([]int{-1}, n)
	for i := 0; i+1 < len(ends); i += 2 {
		mate[ends[i]], mate[ends[i+1]] = ends[i+1], ends[i]
	}
	return mate
}

// Midst is the matching 1 2, 3 4, and so on, of n vertices: 0 is free, and the last one, if n is even.
func Midst(n int) []int {
	mate := Mate(n)
	for v := 1; v+1 < n; v += 2 {
		mate[v], mate[v+1] = v+1, v
	}
	return mate
}

// Flower is a stem from 0 to the number stem, which is even; a ring of that and the next
// vertices, odd in number; and a last vertex, joined with at. The matching leaves 0 and the last one free.
func Flower(stem, ring, at int) (api.Graph, []int) {
	n := stem + ring + 1
	ends := append(rowEnds(n-1), n-2, stem, at, n-1)
	return Made(n, ends...), Midst(n)
}

// Nest is 0, and rungs 1 2, 3 4, and so on, each of which is joined with the one below it at
// both ends: odd rings within odd rings. A last vertex is joined with at. The matching has the rungs.
func Nest(rungs, at int) (api.Graph, []int) {
	n := 2*rungs + 2
	ends := []int{at, n - 1}
	for v := 1; v < n-1; v += 2 {
		ends = append(ends, v, v+1, max(v-2, 0), v, v-1, v+1)
	}
	return Made(n, ends...), Midst(n)
}

// EachMatching is every matching of g.
func EachMatching(g api.Graph) [][]int {
	all := [][]int{Mate(g.N)}
	for _, e := range g.Edges {
		for _, mate := range all {
			if mate[e.A] == -1 && mate[e.B] == -1 {
				more := slices.Clone(mate)
				more[e.A], more[e.B] = e.B, e.A
				all = append(all, more)
			}
		}
	}
	return all
}

// Size is how many edges a right mate has.
func Size(mate []int) int {
	ends := 0
	for _, w := range mate {
		if w != -1 {
			ends++
		}
	}
	return ends / 2
}

// IsMatching is the definition of chapter 8, word by word; g is right.
func IsMatching(g api.Graph, mate []int) bool {
	if len(mate) != g.N {
		return false
	}
	near := Near(g)
	for v, w := range mate {
		if w != -1 && (!slices.Contains(near[v], w) || mate[w] != v) {
			return false
		}
	}
	return true
}

// Flipped is mate with the edges of a path that augments turned about.
func Flipped(mate, path []int) []int {
	larger := slices.Clone(mate)
	for i := 0; i+1 < len(path); i += 2 {
		larger[path[i]], larger[path[i+1]] = path[i+1], path[i]
	}
	return larger
}
