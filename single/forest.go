package single

import (
	"slices"

	"garland/api"
	"garland/join"
)

// none is the mate of a vertex that has none, and stands wherever else there is no vertex.
const none = -1

// node is what a forest knows of a vertex that it has come to.
type node struct {
	label  int
	depth  int     // how many edges lie between it and its root
	up     int     // of one that was Odd when it was come to: the vertex from which it was
	bridge api.Arc // of such a one that is Even by now: the edge that closed the cycle by which it is, from its own side on
}

// forest grows from all free vertices at once, along alternating paths. An odd
// cycle that is closed in it is drawn together into a blossom: all of it is Even,
// as it can be gone round either way. The base of a blossom is the one of its
// vertices that is next to the root; a vertex of no blossom is its own base.
type forest struct {
	near     [][]int
	mate     []int
	nodes    []node
	even     []int // the Even vertices, in the order in which they became that
	blossoms *join.Join
	base     func(v int) int
	// How often edges were looked at. None is more than six times: from its ends, if they are
	// Even, twice; where a cycle is closed, up to its top and when it is drawn together, after
	// which it lies in a blossom and on no such way again; up to the roots of two trees; and
	// along the path.
	looks int
}

// plant is the forest of the free vertices alone. It writes into neither list.
func plant(near [][]int, mate []int) *forest {
	f := &forest{near: near, mate: mate, nodes: make([]node, len(mate)), blossoms: join.New(len(mate))}
	f.base = f.blossoms.Label
	for v := range mate {
		f.nodes[v] = node{label: api.Out, up: none}
		if f.isRoot(v) {
			f.nodes[v].label = api.Even
			f.even = append(f.even, v)
		}
	}
	return f
}

// isRoot tells whether v is a root: a free vertex.
func (f *forest) isRoot(v int) bool { return f.mate[v] == none }

// labels is the label of each vertex.
func (f *forest) labels() []int {
	list := make([]int, len(f.nodes))
	for v, n := range f.nodes {
		list[v] = n.label
	}
	return list
}

// search lets the forest grow until a path that augments is found, and tells it; none, if it cannot grow any more.
func (f *forest) search() []int {
	// The list grows while it is gone through, and so each Even vertex is asked once.
	for i := 0; i < len(f.even); i++ {
		v := f.even[i]
		for _, w := range f.near[v] {
			if path := f.take(v, w); len(path) > 0 {
				return path
			}
		}
	}
	return nil
}

// take looks at the edge from v, which is Even, to w, and tells the path that augments, if it closes one.
func (f *forest) take(v, w int) []int {
	f.looks++
	switch f.nodes[w].label {
	case api.Out:
		f.grow(v, w)
	case api.Even:
		return f.close(v, w)
	}
	return nil
}

// grow adds the edge from v to w, and the one to w's mate. Neither of these was
// come to ahead of it: who is free is a root, and mates are come to together.
func (f *forest) grow(v, w int) {
	mate, depth := f.mate[w], f.nodes[v].depth
	f.nodes[w] = node{label: api.Odd, depth: depth + 1, up: v}
	f.nodes[mate] = node{label: api.Even, depth: depth + 2, up: none}
	f.even = append(f.even, mate)
}

// close takes an edge whose ends are both Even: in two trees it closes a path, which is told, in one a cycle.
func (f *forest) close(v, w int) []int {
	top := f.meet(v, w)
	if top == none {
		return f.through(v, w)
	}
	f.draw(api.Arc{From: v, To: w}, top)
	f.draw(api.Arc{From: w, To: v}, top)
	return nil
}

// above is the base that comes behind b, which is one and no root, on the way to the root.
func (f *forest) above(b int) int {
	f.looks += 2
	return f.base(f.nodes[f.mate[b]].up)
}

// meet tells the base at which the ways from v and from w to a root meet; none, if they are in two trees.
// A base lies deeper than the one above it, so the deeper one of two that differ is not above
// the other, and may go on; and if that is a root, both are.
func (f *forest) meet(v, w int) int {
	a, b := f.base(v), f.base(w)
	for a != b {
		if f.nodes[a].depth < f.nodes[b].depth {
			a, b = b, a
		}
		if f.isRoot(a) {
			return none
		}
		a = f.above(a)
	}
	return a
}

// draw draws one side of a cycle, from the near end of the edge that closes it, together with its top.
func (f *forest) draw(bridge api.Arc, top int) {
	for b := f.base(bridge.From); b != top; {
		odd := f.mate[b]
		f.nodes[odd].label = api.Even
		f.nodes[odd].bridge = bridge
		f.even = append(f.even, odd)
		above := f.above(b)
		f.blossoms.Unite(b, top, top)
		f.blossoms.Unite(odd, top, top)
		b = above
	}
}

// through is the path from the root of v to v, over to w, and to the root of w.
func (f *forest) through(v, w int) []int {
	path := f.climb(nil, v, none)
	slices.Reverse(path)
	path = f.climb(path, w, none)
	f.looks += len(path) - 1
	return path
}

// climb adds to way the alternating path from v, which is Even, by its mate, up to top; to the root, if top is none.
func (f *forest) climb(way []int, v, top int) []int {
	for v != top && !f.isRoot(v) {
		mate := f.mate[v]
		if f.nodes[v].up == none {
			way = append(way, v, mate)
			v = f.nodes[mate].up
			continue
		}
		// Who was Odd once goes down to the edge that closed its cycle, and over it;
		// that way down is the way up from there, turned about.
		way = append(way, v)
		down := len(way)
		way = f.climb(way, f.nodes[v].bridge.From, mate)
		slices.Reverse(way[down:])
		v = f.nodes[v].bridge.To
	}
	return append(way, v)
}
