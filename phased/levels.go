package phased

import (
	"math/bits"
	"slices"

	"garland/api"
	"garland/mates"
	"garland/neighbours"
)

const (
	mostOfLevels = 24 // vertices
	noLevel      = -1
)

// Levels tells the even level, and the odd level, of each vertex; -1, where there is no such path.
func Levels(g api.Graph, mate []int) ([]int, []int, api.Errno) {
	if err := refusal(g, mate); err != api.OK {
		return nil, nil, err
	}
	if g.N > mostOfLevels {
		return nil, nil, api.ErrLimit
	}
	l := levelsOf(g, mate)
	for _, v := range mates.Free(mate) {
		l.goFrom(v)
	}
	return l.even, l.odd, api.OK
}

// levels are what is known by now. Sets of pairs, and of vertices, are the bits of a number.
type levels struct {
	near      [][]int
	mate      []int
	pair      []uint // of each vertex the set of its pair alone: it and its mate; none of a free one
	sets      int    // how many sets of pairs there are
	even, odd []int
}

func levelsOf(g api.Graph, mate []int) *levels {
	l := &levels{near: neighbours.Of(g), mate: mate, pair: make([]uint, g.N), sets: 1}
	l.even, l.odd = slices.Repeat([]int{noLevel}, g.N), slices.Repeat([]int{noLevel}, g.N)
	for _, e := range mates.Edges(mate) {
		l.pair[e.A], l.pair[e.B] = uint(l.sets), uint(l.sets)
		l.sets *= 2
	}
	return l
}

// goFrom goes along all alternating paths from root, which is free. An even one has been at root
// and at both vertices of some pairs, and has two edges for each of these: so which
// pairs, and at which vertex it ends, is all that must be known of it to go on.
func (l *levels) goFrom(root int) {
	l.even[root] = 0
	ends := make([]uint, l.sets)
	ends[0] = 1 << root
	// Whoever goes on goes to a set that is a greater number.
	for set := range ends {
		for left := ends[set]; left != 0; left &= left - 1 {
			for _, w := range l.near[bits.TrailingZeros(left)] {
				if w != root && l.pair[w]&uint(set) == 0 {
					l.step(ends, set, w)
				}
			}
		}
	}
}

// step goes from the end of a path that has been at the pairs of set to w, at which it has not been, and on to w's mate.
func (l *levels) step(ends []uint, set, w int) {
	length := 2 * bits.OnesCount(uint(set))
	l.odd[w] = lesser(l.odd[w], length+1)
	if mate := l.mate[w]; mate >= 0 {
		l.even[mate] = lesser(l.even[mate], length+2)
		ends[set|int(l.pair[w])] |= 1 << mate
	}
}

// lesser is the lesser one of a level, or none, and a length.
func lesser(level, length int) int {
	if level == noLevel {
		return length
	}
	return min(level, length)
}
