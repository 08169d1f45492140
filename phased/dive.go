package phased

import (
	"slices"

	"garland/api"
	"garland/forest"
)

// dive takes paths that augment, root by root, when a wave has closed the first one.
// It sees each settled blossom as one vertex, its base, and has no edges but the
// matching's and those that are tight. Of these are the paths that are as short as
// any, and each path of these is, when it is led through each of its blossoms the
// one way from where it comes in, or goes out, to the base.
//
// It goes as deep as it can ahead of all else. So whatever a root has come to in vain
// is of no use for the next one, and nothing is gone along again.
//
// It looks at no edge more than eight times: from either end when it is held to be tight or
// not, when it is gone deeper by, and when a step is led; and twice where it is gone along.
type dive struct {
	wave  *wave
	tight [][]api.Arc
	trees *forest.Forest
	turn  []int // of each root, and each vertex that grew, in which turn it became Even, from 1 on
	turns int
}

func diveOf(w *wave) *dive {
	return &dive{wave: w, tight: w.tight(), trees: forest.Bare(w.mate), turn: make([]int, len(w.mate))}
}

// run tells the paths, each from one of the roots on.
func (d *dive) run(roots []int) [][]int {
	var paths [][]int
	for _, v := range roots {
		// At some of them a path has ended by now.
		if d.trees.Label(v) != api.Out {
			continue
		}
		d.trees.Root(v)
		if steps := d.goFrom(v); len(steps) > 0 {
			paths = append(paths, d.lead(steps))
		}
	}
	return paths
}

// goFrom goes deeper from v, which is Even, and tells the path that augments, if it comes upon one.
func (d *dive) goFrom(v int) []int {
	d.turns++
	d.turn[v] = d.turns
	for _, a := range d.tight[v] {
		if path := d.take(v, d.wave.blossom(a.To)); len(path) > 0 {
			return path
		}
	}
	return nil
}

// take looks at the edge from v, which is Even, to u.
func (d *dive) take(v, u int) []int {
	d.trees.Looks++
	switch d.trees.Label(u) {
	case api.Out:
		return d.grow(v, u)
	case api.Even:
		return d.close(v, u)
	}
	return nil
}

// grow takes an edge to u, which is Out: to a free one it ends a path.
func (d *dive) grow(v, u int) []int {
	if !d.trees.IsFree(u) {
		return d.goFrom(d.trees.Grow(v, u))
	}
	d.trees.Root(u)
	return d.trees.Through(v, u)
}

// close takes an edge whose ends are both Even. It closes a cycle only if u is behind v, whose base
// then became Even ahead of u's. Else both are in one blossom, or u closed it, or will; or is of a tree that is done.
func (d *dive) close(v, u int) []int {
	top := d.trees.Base(v)
	if d.turn[d.trees.Base(u)] <= d.turn[top] {
		return nil
	}
	fresh := d.trees.Draw(api.Arc{From: u, To: v}, top)
	// Those next to the top come first. A path from one of them has all on it that
	// are between it and u: so those that had no turn yet need none any more.
	for _, odd := range slices.Backward(fresh) {
		if path := d.goFrom(odd); len(path) > 0 {
			return path
		}
	}
	return nil
}

// lead is the path of vertices for one of bases, of which the first two, the next two, and so on
// are joined by tight edges: either end of such an edge is led up to its base. The matching joins bases as they are.
func (d *dive) lead(steps []int) []int {
	var path []int
	for i := 0; i < len(steps); i += 2 {
		a := d.step(steps[i], steps[i+1])
		down := d.wave.trees.Climb(a.From, steps[i])
		slices.Reverse(down)
		path = append(path, down...)
		path = append(path, d.wave.trees.Climb(a.To, steps[i+1])...)
	}
	return path
}

// step is the first tight edge from the blossom of from to the one of to, between which there is one.
func (d *dive) step(from, to int) api.Arc {
	arcs := d.tight[from]
	i := 0
	for d.wave.blossom(arcs[i].To) != to {
		i++
	}
	d.trees.Looks += i + 1
	return arcs[i]
}
