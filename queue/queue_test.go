package queue_test

import (
	"math"
	"slices"
	"testing"

	"garland/api"
	"garland/queue"
)

// ahead tells whether a comes ahead of b, as the chapter says it.
func ahead(a, b api.Entry) bool {
	return a.Key < b.Key || a.Key == b.Key && a.Value < b.Value
}

// model is the entries as they would be popped. It is held in order by laying
// each new one where it belongs.
type model []api.Entry

func (m model) with(e api.Entry) model {
	at := 0
	for at < len(m) && !ahead(e, m[at]) {
		at++
	}
	return slices.Insert(m, at, e)
}

func modelOf(l []api.Entry) model {
	var m model
	for _, e := range l {
		m = m.with(e)
	}
	return m
}

// wantFirst holds Len and Peek of q against m; Peek is asked twice, as it takes nothing out.
func wantFirst(t *testing.T, what string, q *queue.Queue, m model) {
	t.Helper()
	want, wantErr := api.Entry{}, api.ErrEmpty
	if len(m) > 0 {
		want, wantErr = m[0], api.OK
	}
	for range 2 {
		if got, err := q.Peek(); got != want || err != wantErr {
			t.Errorf("%s: Peek %v, error %d; want %v, %d", what, got, err, want, wantErr)
		}
		if got := q.Len(); got != len(m) {
			t.Errorf("%s: Len %d, want %d", what, got, len(m))
		}
	}
}

// wantPop takes one out of q, and out of m, which it tells.
func wantPop(t *testing.T, what string, q *queue.Queue, m model) model {
	t.Helper()
	wantFirst(t, what, q, m)
	want, wantErr := api.Entry{}, api.ErrEmpty
	if len(m) > 0 {
		want, wantErr = m[0], api.OK
		m = m[1:]
	}
	if got, err := q.Pop(); got != want || err != wantErr {
		t.Errorf("%s: Pop %v, error %d; want %v, %d", what, got, err, want, wantErr)
	}
	wantFirst(t, what, q, m)
	return m
}

// wantAll pops all of q, and once more.
func wantAll(t *testing.T, what string, q *queue.Queue, m model) {
	t.Helper()
	for len(m) > 0 {
		m = wantPop(t, what, q, m)
	}
	wantPop(t, what, q, m)
}

func pushAll(t *testing.T, what string, q *queue.Queue, l []api.Entry) {
	t.Helper()
	for _, e := range l {
		if err := q.Push(e); err != api.OK {
			t.Errorf("%s: Push %v: error %d", what, e, err)
		}
	}
}

// orders calls f with l in each order in which its entries may stand.
func orders(l []api.Entry, f func([]api.Entry)) {
	var place func(k int)
	place = func(k int) {
		if k == len(l) {
			f(l)
			return
		}
		for i := k; i < len(l); i++ {
			l[k], l[i] = l[i], l[k]
			place(k + 1)
			l[k], l[i] = l[i], l[k]
		}
	}
	place(0)
}

// chance gives numbers from 0 to n - 1, as a small rule tells them.
func chance() func(n int) int {
	seed := uint32(7)
	return func(n int) int {
		seed = seed*1664525 + 1013904223
		return int(seed>>8) % n
	}
}

// mixed are entries, in order, with like Keys, like Values, whole likes, and the ends of what a number may be.
func mixed() []api.Entry {
	return []api.Entry{
		{Key: math.MinInt, Value: math.MinInt}, {Key: math.MinInt, Value: math.MaxInt},
		{Key: -2, Value: 4}, {Key: 0, Value: math.MinInt}, {Key: 0, Value: -1}, {Key: 0, Value: -1},
		{Key: 0, Value: 0}, {Key: 0, Value: math.MaxInt}, {Key: 3, Value: -9},
		{Key: math.MaxInt, Value: math.MinInt}, {Key: math.MaxInt, Value: math.MaxInt},
	}
}

func TestNew(t *testing.T) {
	q := queue.New()
	if q == nil {
		t.Fatal("New is nil")
	}
	wantAll(t, "a new one", q, nil)
	pushAll(t, "a new one", q, []api.Entry{{}})
	wantAll(t, "an entry of zeros", q, model{{}})
}

func TestExample(t *testing.T) {
	q := queue.New()
	pushAll(t, "the example", q, []api.Entry{{Key: 5, Value: 1}, {Key: 3, Value: 9}})
	if got, err := q.Pop(); got != (api.Entry{Key: 3, Value: 9}) || err != api.OK {
		t.Errorf("Pop %v, error %d; want 3 9", got, err)
	}
}

func TestFirst(t *testing.T) {
	for what, l := range map[string][]api.Entry{
		"the lesser Key, not the lesser Value": {{Key: 1, Value: 9}, {Key: 2, Value: 0}},
		"of like Keys the lesser Value":        {{Key: 4, Value: -3}, {Key: 4, Value: 2}},
		"below 0":                              {{Key: -1, Value: 0}, {Key: 0, Value: -1}},
		"Keys as far apart as may be":          {{Key: math.MinInt, Value: 0}, {Key: math.MaxInt, Value: 0}},
		"Values as far apart as may be":        {{Key: 0, Value: math.MinInt}, {Key: 0, Value: math.MaxInt}},
		"one twice":                            {{Key: 6, Value: 6}, {Key: 6, Value: 6}},
	} {
		for _, at := range []int{0, 1} {
			q := queue.New()
			pushAll(t, what, q, []api.Entry{l[at], l[1-at]})
			wantAll(t, what, q, l)
		}
	}
}

func TestWhateverOrder(t *testing.T) {
	l := []api.Entry{{Key: 2, Value: 1}, {Key: 1, Value: 2}, {Key: 1, Value: 1}, {Key: 2, Value: 1}, {Key: -5, Value: 8}, {Key: 2, Value: 0}}
	m := modelOf(l)
	orders(l, func(l []api.Entry) {
		if t.Failed() {
			return
		}
		q := queue.New()
		pushAll(t, "one order", q, l)
		wantAll(t, "one order", q, m)
		if got := queue.Sorted(l); !slices.Equal(got, m) {
			t.Errorf("Sorted of %v: %v", l, got)
		}
		if t.Failed() {
			t.Logf("pushed: %v", l)
		}
	})
}

func TestMixed(t *testing.T) {
	l := mixed()
	for turn := range len(l) {
		turned := append(slices.Clone(l[turn:]), l[:turn]...)
		for _, what := range []string{"turned", "turned, backward"} {
			q := queue.New()
			pushAll(t, what, q, turned)
			wantAll(t, what, q, l)
			slices.Reverse(turned)
		}
	}
}

// TestEveryRow does every row of seven calls, each a Pop or a Push of one of three.
func TestEveryRow(t *testing.T) {
	pushed := []api.Entry{{Key: 1, Value: 2}, {Key: 1, Value: 1}, {Key: 0, Value: 3}}
	const calls, rows = 7, 4 * 4 * 4 * 4 * 4 * 4 * 4
	for row := range rows {
		q, m := queue.New(), model(nil)
		for k, rest := 0, row; k < calls; k, rest = k+1, rest/4 {
			if rest%4 == 3 {
				m = wantPop(t, "a row", q, m)
				continue
			}
			pushAll(t, "a row", q, pushed[rest%4:rest%4+1])
			m = m.with(pushed[rest%4])
		}
		wantAll(t, "a row, at its end", q, m)
		if t.Failed() {
			t.Fatalf("row %d", row)
		}
	}
}

// TestChance pushes and pops in long rows, with many like entries.
func TestChance(t *testing.T) {
	next := chance()
	for range 40 {
		q, m := queue.New(), model(nil)
		pops := 1 + next(3)
		for range 300 {
			if next(5) < pops {
				m = wantPop(t, "a row of chance", q, m)
				continue
			}
			e := api.Entry{Key: next(9) - 4, Value: next(9) - 4}
			pushAll(t, "a row of chance", q, []api.Entry{e})
			m = m.with(e)
			wantFirst(t, "a row of chance", q, m)
		}
		wantAll(t, "a row of chance, at its end", q, m)
		if t.Failed() {
			return
		}
	}
}

func TestEachGoesOnByItself(t *testing.T) {
	one, other := queue.New(), queue.New()
	pushAll(t, "one", one, []api.Entry{{Key: 1, Value: 1}})
	wantFirst(t, "the other", other, nil)
	pushAll(t, "the other", other, []api.Entry{{Key: 0, Value: 5}})
	wantAll(t, "one", one, model{{Key: 1, Value: 1}})
	wantAll(t, "the other", other, model{{Key: 0, Value: 5}})
}

func TestNil(t *testing.T) {
	var none *queue.Queue
	for range 2 {
		if err := none.Push(api.Entry{Key: 1, Value: 2}); err != api.ErrNil {
			t.Errorf("Push: error %d", err)
		}
		if got, err := none.Pop(); got != (api.Entry{}) || err != api.ErrNil {
			t.Errorf("Pop: %v, error %d", got, err)
		}
		if got, err := none.Peek(); got != (api.Entry{}) || err != api.ErrNil {
			t.Errorf("Peek: %v, error %d", got, err)
		}
		if got := none.Len(); got != 0 {
			t.Errorf("Len %d", got)
		}
	}
}

func TestZeroValue(t *testing.T) {
	q := new(queue.Queue)
	wantFirst(t, "the zero value", q, nil)
	l := mixed()
	pushAll(t, "the zero value", q, l)
	wantAll(t, "the zero value", q, l)
}

// TestFull: what is refused would come first, and last, if it were in.
func TestFull(t *testing.T) {
	const step = 1234567 // without a divisor in common with MaxQueue, so that each Key comes once
	q := queue.New()
	for k := range api.MaxQueue {
		if err := q.Push(api.Entry{Key: k * step % api.MaxQueue, Value: -k}); err != api.OK {
			t.Fatalf("Push number %d: error %d", k, err)
		}
	}
	for _, e := range []api.Entry{{Key: -1}, {Key: 0, Value: 0}, {Key: api.MaxQueue}, {Key: math.MinInt, Value: math.MinInt}} {
		if err := q.Push(e); err != api.ErrLimit {
			t.Errorf("Push %v into a full one: error %d", e, err)
		}
		if got, err := q.Peek(); got != (api.Entry{}) || err != api.OK || q.Len() != api.MaxQueue {
			t.Errorf("a full one after what it refused: Peek %v, error %d, Len %d", got, err, q.Len())
		}
	}
	if got, err := q.Pop(); got != (api.Entry{}) || err != api.OK || q.Len() != api.MaxQueue-1 {
		t.Errorf("a full one: Pop %v, error %d, Len %d", got, err, q.Len())
	}
	if err := q.Push(api.Entry{Key: 0, Value: 3}); err != api.OK {
		t.Errorf("Push where one is out: error %d", err)
	}
	if err := q.Push(api.Entry{Key: 0, Value: 2}); err != api.ErrLimit {
		t.Errorf("Push into a full one again: error %d", err)
	}
	for k := range api.MaxQueue {
		got, err := q.Pop()
		value := -got.Value
		if k == 0 && got.Value != 3 || k > 0 && value*step%api.MaxQueue != k || got.Key != k || err != api.OK {
			t.Fatalf("Pop number %d of a full one: %v, error %d", k, got, err)
		}
	}
	wantAll(t, "one that was full", q, nil)
}

func TestSorted(t *testing.T) {
	next := chance()
	var chosen []api.Entry
	for range 500 {
		chosen = append(chosen, api.Entry{Key: next(30) - 15, Value: next(30) - 15})
	}
	backward := mixed()
	slices.Reverse(backward)
	for what, l := range map[string][]api.Entry{
		"nil":         nil,
		"none":        {},
		"one":         {{Key: 3, Value: -3}},
		"in order":    mixed(),
		"backward":    backward,
		"likes":       {{Key: 1, Value: 1}, {Key: 1, Value: 1}, {Key: 1, Value: 1}},
		"like Keys":   {{Key: 1, Value: 3}, {Key: 1, Value: -3}, {Key: 1, Value: 0}},
		"like Values": {{Key: 3, Value: 1}, {Key: -3, Value: 1}, {Key: 0, Value: 1}},
		"of chance":   chosen,
	} {
		if got, want := queue.Sorted(l), modelOf(l); !slices.Equal(got, want) {
			t.Errorf("%s: Sorted %v, want %v", what, got, want)
		}
	}
}

// TestSortedTakesMoreThanAQueue: a list is no queue, and has no limit of its own.
func TestSortedTakesMoreThanAQueue(t *testing.T) {
	l := make([]api.Entry, api.MaxQueue+1)
	for k := range l {
		l[k] = api.Entry{Key: -k / 2, Value: -k}
	}
	got := queue.Sorted(l)
	slices.Reverse(l)
	if !slices.Equal(got, l) {
		t.Errorf("Sorted of %d entries is not right: %d entries", len(l), len(got))
	}
}

func TestSortedIsNewMemory(t *testing.T) {
	room := mixed()
	slices.Reverse(room)
	kept := slices.Clone(room)
	for n := range len(room) + 1 {
		l := room[:n] // with room behind its end
		got := queue.Sorted(l)
		if !slices.Equal(room, kept) {
			t.Fatalf("Sorted of %d entries changed what was handed in: %v", n, room)
		}
		clear(got[:cap(got)])
		if !slices.Equal(room, kept) {
			t.Fatalf("Sorted of %d entries shares memory with what was handed in", n)
		}
		again := queue.Sorted(l)
		clear(room)
		if !slices.Equal(again, modelOf(kept[:n])) {
			t.Fatalf("Sorted of %d entries was changed with what was handed in", n)
		}
		copy(room, kept)
	}
}
