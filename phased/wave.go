package phased

import (
	"garland/api"
	"garland/forest"
	"garland/join"
	"garland/mates"
)

// wave lets a forest grow from all free vertices at once. It goes by lengths, and
// takes an edge when its length comes. Of one whose ends are both Even that is how
// long the path is that it closes, from root to root. Of one to a vertex that is Out it is
// the least that an edge of that one's mate may close, which is Even by it: so
// each vertex is come to in time, and by as few edges as may be, and the first
// path that is closed is as short as any.
//
// It looks at no edge more than eight times: from either end when it is laid up, and
// when its length comes; and four times where it is gone along.
type wave struct {
	near    [][]int
	mate    []int
	trees   *forest.Forest
	put     func(length int, a api.Arc)
	next    func() (api.Arc, int, bool)
	length  int        // the one that has come
	drawn   []api.Arc  // from each vertex that became Even in a cycle of this length to the top of that
	settled *join.Join // the blossoms of cycles of lesser lengths
}

// waveOf begins with the free vertices alone. It writes into neither list.
func waveOf(near [][]int, mate []int) *wave {
	b := newBuckets()
	w := &wave{near: near, mate: mate, trees: forest.Bare(mate), put: b.put, next: b.next, settled: join.New(len(mate))}
	free := mates.Free(mate)
	for _, v := range free {
		w.trees.Root(v)
	}
	w.layUp(free)
	return w
}

// run goes on until a path that augments is closed, and tells whether one was; if not, all was come to that can be.
func (w *wave) run() bool {
	for {
		a, length, there := w.next()
		if !there {
			return false
		}
		if length > w.length {
			w.settle()
			w.length = length
		}
		if w.take(a) {
			return true
		}
	}
}

// settle takes the cycles of the length that has passed to the settled ones.
func (w *wave) settle() {
	for _, d := range w.drawn {
		w.settled.Unite(d.From, d.To, d.To)
		w.settled.Unite(w.mate[d.From], d.To, d.To)
	}
	w.drawn = nil
}

// blossom is the base of the settled blossom of v.
func (w *wave) blossom(v int) int { return w.settled.Label(v) }

// layUp lays up the edges of vertices that are Even by now.
func (w *wave) layUp(fresh []int) {
	for _, v := range fresh {
		for _, u := range w.near[v] {
			w.trees.Looks++
			a := api.Arc{From: v, To: u}
			if length := w.lengthOf(a); length != never {
				w.put(length, a)
			}
		}
	}
}

// never is the length of an edge to a vertex that is Odd: if that becomes Even, it lays up the edge itself.
const never = -1

// lengthOf is when the edge a, whose From is Even, is taken, by what is known now.
func (w *wave) lengthOf(a api.Arc) int {
	length := w.trees.Length(a.From)
	switch w.trees.Label(a.To) {
	case api.Out:
		// The mate will have two edges more, and none of its neighbours that are Even will have fewer than From.
		return (length + 2) + 1 + length
	case api.Even:
		return length + 1 + w.trees.Length(a.To)
	}
	return never
}

// take looks at an edge whose length has come, and tells whether it closes a path that augments.
func (w *wave) take(a api.Arc) bool {
	w.trees.Looks++
	// Its To may have been come to another way since it was laid up.
	if w.lengthOf(a) != w.length {
		return false
	}
	if w.trees.Label(a.To) == api.Even {
		return w.close(a)
	}
	w.layUp([]int{w.trees.Grow(a.From, a.To)})
	return false
}

// close takes an edge whose ends are both Even: in two trees it closes a path, in one a cycle, and within a blossom nothing.
func (w *wave) close(a api.Arc) bool {
	if w.trees.Base(a.From) == w.trees.Base(a.To) {
		return false
	}
	top := w.trees.Meet(a.From, a.To)
	if top == forest.None {
		return true
	}
	fresh := w.trees.Close(a.From, a.To, top)
	for _, v := range fresh {
		w.drawn = append(w.drawn, api.Arc{From: v, To: top})
	}
	w.layUp(fresh)
	return false
}

// tight tells of the base of each settled blossom the tight edges out of that, from its own side on.
func (w *wave) tight() [][]api.Arc {
	lists := make([][]api.Arc, len(w.near))
	for v, near := range w.near {
		b := w.blossom(v)
		for _, u := range near {
			w.trees.Looks++
			if w.blossom(u) != b && w.rest(v)+w.rest(u) == 0 {
				lists[b] = append(lists[b], api.Arc{From: v, To: u})
			}
		}
	}
	return lists
}

// rest is how much is left of v. Of each vertex there is 1 at first; with every two by which
// the length that has come is greater there is 1 less of each that is Even, and 1 more of
// each that is Odd. Edges take their turn so that of the two ends of one there is never less
// than nothing left, but within a settled blossom; it is tight if just nothing is. (Of the two
// ends of one of the matching's there are 2 at all times, so that it is not.)
func (w *wave) rest(v int) int {
	steps := (w.length + 1) / 2
	switch w.trees.Label(v) {
	case api.Even:
		return 1 - steps + w.trees.Length(v)
	case api.Odd:
		return steps - w.trees.Length(v)
	}
	return 1
}
