// Package forest lets trees of alternating paths grow from free vertices, for layers that look for paths that augment.
package forest

import (
	"slices"

	"garland/api"
	"garland/join"
)

// None is the mate of a vertex that has none, and stands wherever else there is no vertex.
const None = -1

// node is what a forest knows of a vertex that it has come to.
type node struct {
	label  int
	length int     // how many edges the path has by which it was come to, from its root on
	up     int     // of one that was Odd when it was come to: the vertex from which it was
	bridge api.Arc // of such a one that is Even by now: the edge that closed the cycle by which it is, from its own side on
}

// Forest grows along the alternating paths of a matching, from roots, which are
// free vertices. An odd cycle that is closed in it is drawn together into a
// blossom: all of it is Even, as it can be gone round either way. The base of a
// blossom is the one of its vertices that is next to the root; a vertex of no
// blossom is its own base. Which edges there are, and in which order they are
// taken, is for who lets it grow; it names to it none but vertices that there are.
type Forest struct {
	// Looks is how often edges were looked at where they were gone along. One is four times at
	// most, if just one pair of trees meets and no two of the paths that are told have it: where a
	// cycle is closed, up to its top and when it is drawn together, after which it lies in a
	// blossom and on no such way again; up to the roots of the two trees; and along a path.
	Looks    int
	mate     []int
	nodes    []node
	blossoms *join.Join
}

// Bare is a forest without trees. It does not write into mate.
func Bare(mate []int) *Forest {
	f := &Forest{mate: mate, nodes: make([]node, len(mate)), blossoms: join.New(len(mate))}
	for v := range f.nodes {
		f.nodes[v] = node{label: api.Out, up: None}
	}
	return f
}

// Root makes v, which is free, a root: a tree by itself.
func (f *Forest) Root(v int) { f.nodes[v].label = api.Even }

// IsFree tells whether v has no mate.
func (f *Forest) IsFree(v int) bool { return f.mate[v] == None }

// Label is api.Even, api.Odd, or api.Out of a vertex that was not come to.
func (f *Forest) Label(v int) int { return f.nodes[v].label }

// Labels is the label of each vertex.
func (f *Forest) Labels() []int {
	list := make([]int, len(f.nodes))
	for v := range list {
		list[v] = f.Label(v)
	}
	return list
}

// Length is how many edges the path from the root to v has, which is an even number if v is Even.
func (f *Forest) Length(v int) int { return f.nodes[v].length }

// Base is the base of v.
func (f *Forest) Base(v int) int { return f.blossoms.Label(v) }

// Grow adds the edge from v, which is Even, to w, which is Out and not free, and
// the one to w's mate, which it tells, as it is Even by now. Neither of these was
// come to ahead of it: mates are come to together.
func (f *Forest) Grow(v, w int) int {
	mate, length := f.mate[w], f.nodes[v].length
	f.nodes[w] = node{label: api.Odd, length: length + 1, up: v}
	f.nodes[mate] = node{label: api.Even, length: length + 2, up: None}
	return mate
}

// above is the base that comes behind b, which is one and no root, on the way to the root.
func (f *Forest) above(b int) int {
	f.Looks += 2
	return f.Base(f.nodes[f.mate[b]].up)
}

// Meet tells the base at which the ways from v and from w, both Even, to a root meet; None, if they are in two trees.
// The way to a base is longer than the one to the base above it, so that one of two that differ, to
// which it is the longer one, is not above the other, and may go on; and if that is a root, both are.
func (f *Forest) Meet(v, w int) int {
	a, b := f.Base(v), f.Base(w)
	for a != b {
		if f.nodes[a].length < f.nodes[b].length {
			a, b = b, a
		}
		if f.IsFree(a) {
			return None
		}
		a = f.above(a)
	}
	return a
}

// Close draws the cycle together that the edge of v and w closes, which meet at
// top, and tells the vertices that are Even by that.
func (f *Forest) Close(v, w, top int) []int {
	return append(f.Draw(api.Arc{From: v, To: w}, top), f.Draw(api.Arc{From: w, To: v}, top)...)
}

// Draw draws one side of a cycle, from the near end of the edge that closes it, together
// with its top, and tells the vertices that are Even by that, those next to the top last.
func (f *Forest) Draw(bridge api.Arc, top int) []int {
	var fresh []int
	round := f.nodes[bridge.From].length + 1 + f.nodes[bridge.To].length
	for b := f.Base(bridge.From); b != top; {
		odd := f.mate[b]
		n := &f.nodes[odd]
		n.label, n.length, n.bridge = api.Even, round-n.length, bridge
		fresh = append(fresh, odd)
		above := f.above(b)
		f.blossoms.Unite(b, top, top)
		f.blossoms.Unite(odd, top, top)
		b = above
	}
	return fresh
}

// Through is the path from the root of v to v, over to w, and to the root of w, both of which are Even.
func (f *Forest) Through(v, w int) []int {
	path := f.Climb(v, None)
	slices.Reverse(path)
	return append(path, f.Climb(w, None)...)
}

// Climb is the alternating path from v, which is Even, by its mate, up to top, which is a
// base that comes behind v; to the root, if top is None. From a vertex to itself it is that.
func (f *Forest) Climb(v, top int) []int {
	path := f.climb(nil, v, top)
	f.Looks += len(path) - 1
	return path
}

// climb adds such a path to way.
func (f *Forest) climb(way []int, v, top int) []int {
	for v != top && !f.IsFree(v) {
		mate := f.mate[v]
		if f.nodes[v].up == None {
			way = append(way, v, mate)
			v = f.nodes[mate].up
			continue
		}
		// Who was Odd once goes down to the edge that closed its cycle, and over it;
		// that way down is the way up from there, turned about.
		way = append(way, v)
		down := len(way)
		way = f.climb(way, f.nodes[v].bridge.From, mate)
		slices.Reverse(way[down:])
		v = f.nodes[v].bridge.To
	}
	return append(way, v)
}
