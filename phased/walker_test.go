package phased_test

import (
	"slices"

	"garland/api"
	"garland/samples"
)

// walker goes along alternating paths from free vertices, one by one, and tells of each
// where it has come to, by how many edges. It comes to none on which on says that it is, and goes no farther than most.
type walker struct {
	near [][]int
	mate []int
	on   []bool
	most int
	come func(v, edges int)
}

func walkerOf(g api.Graph, mate []int, come func(v, edges int)) *walker {
	return &walker{near: samples.Near(g), mate: mate, on: make([]bool, g.N), most: g.N, come: come}
}

// all goes along all such paths.
func (w *walker) all() {
	for v, mate := range w.mate {
		if mate == -1 {
			w.goOn(v, 0)
		}
	}
}

// goOn comes to v by so many edges, and goes on along the matching, if that many are odd, and else not along it.
func (w *walker) goOn(v, edges int) {
	if w.on[v] || edges > w.most {
		return
	}
	w.on[v] = true
	w.come(v, edges)
	if edges%2 == 0 {
		for _, u := range w.near[v] {
			if w.mate[v] != u {
				w.goOn(u, edges+1)
			}
		}
	} else if w.mate[v] != -1 {
		w.goOn(w.mate[v], edges+1)
	}
	w.on[v] = false
}

// levelsOf is the definition of the chapter, word by word.
func levelsOf(g api.Graph, mate []int) (even, odd []int) {
	even, odd = slices.Repeat([]int{-1}, g.N), slices.Repeat([]int{-1}, g.N)
	walkerOf(g, mate, func(v, edges int) {
		level := even
		if edges%2 == 1 {
			level = odd
		}
		if level[v] == -1 || level[v] > edges {
			level[v] = edges
		}
	}).all()
	return even, odd
}

// shortest is how many edges a shortest path that augments has, by the odd levels; 0, if there is none.
func shortest(mate, odd []int) int {
	least := 0
	for v, w := range mate {
		if w == -1 && odd[v] != -1 && (least == 0 || least > odd[v]) {
			least = odd[v]
		}
	}
	return least
}
