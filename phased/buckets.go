package phased

import (
	"garland/api"
	"garland/queue"
)

// buckets lay up edges, each from an end on, by the length of the paths for which their
// turn comes; of like length by when they were laid up. A queue knows which bucket comes first.
type buckets struct {
	lengths *queue.Queue
	arcs    map[int][]api.Arc
}

func newBuckets() *buckets {
	return &buckets{lengths: queue.New(), arcs: map[int][]api.Arc{}}
}

// put lays a up. The queue is told of a bucket when it is begun, and so never of more than it can hold.
func (b *buckets) put(length int, a api.Arc) {
	if len(b.arcs[length]) == 0 {
		b.lengths.Push(api.Entry{Key: length})
	}
	b.arcs[length] = append(b.arcs[length], a)
}

// next takes out what comes first, and tells its length; or that there is nothing.
func (b *buckets) next() (api.Arc, int, bool) {
	first, err := b.lengths.Peek()
	if err != api.OK {
		return api.Arc{}, 0, false
	}
	bucket := b.arcs[first.Key]
	b.arcs[first.Key] = bucket[1:]
	if len(bucket) == 1 {
		b.lengths.Pop()
	}
	return bucket[0], first.Key, true
}
