package join_test

import (
	"math"
	"slices"
	"testing"

	"garland/api"
	"garland/join"
)

// model is the sets as the chapter tells of them: for each number, what is found and its label.
type model struct{ find, label []int }

func modelOf(n int) model { return model{find: count(n), label: count(n)} }

func (m model) has(k int) bool { return k >= 0 && k < len(m.find) }

func (m model) unite(a, b, label int) bool {
	if !m.has(a) || !m.has(b) || !m.has(label) || m.find[a] == m.find[b] {
		return false
	}
	one, other := m.find[a], m.find[b]
	for k, f := range m.find {
		if f == one || f == other {
			m.find[k], m.label[k] = min(one, other), label
		}
	}
	return true
}

func (m model) sets() [][]int {
	var l [][]int
	for least := range m.find {
		var set []int
		for k, f := range m.find {
			if f == least {
				set = append(set, k)
			}
		}
		if set != nil {
			l = append(l, set)
		}
	}
	return l
}

// count is the numbers from 0 to n - 1.
func count(n int) []int {
	l := make([]int, n)
	for i := range l {
		l[i] = i
	}
	return l
}

func sameSets(a, b [][]int) bool { return slices.EqualFunc(a, b, slices.Equal[[]int]) }

// outside are numbers that are none of n.
func outside(n int) []int { return []int{-1, n, n + 1, math.MinInt, math.MaxInt} }

// wantModel: j answers whatever may be asked as m does.
func wantModel(t *testing.T, what string, j *join.Join, m model) {
	t.Helper()
	n := len(m.find)
	sets := m.sets()
	if got := j.Sets(); !sameSets(got, sets) {
		t.Errorf("%s: Sets %v, want %v", what, got, sets)
	}
	if got := j.Len(); got != len(sets) {
		t.Errorf("%s: Len %d, want %d", what, got, len(sets))
	}
	for a := range n {
		if got := j.Find(a); got != m.find[a] {
			t.Errorf("%s: Find(%d) %d, want %d", what, a, got, m.find[a])
		}
		if got := j.Label(a); got != m.label[a] {
			t.Errorf("%s: Label(%d) %d, want %d", what, a, got, m.label[a])
		}
		for b := range n {
			if got, want := j.Same(a, b), m.find[a] == m.find[b]; got != want {
				t.Errorf("%s: Same(%d, %d) %v, want %v", what, a, b, got, want)
			}
		}
	}
	wantNothingOutside(t, what, j, n)
}

// wantNothingOutside: what is none of the n numbers of j is in no set, not even with itself.
func wantNothingOutside(t *testing.T, what string, j *join.Join, n int) {
	t.Helper()
	for _, k := range outside(n) {
		if got := j.Find(k); got != -1 {
			t.Errorf("%s: Find(%d) %d, want -1", what, k, got)
		}
		if got := j.Label(k); got != -1 {
			t.Errorf("%s: Label(%d) %d, want -1", what, k, got)
		}
		for _, other := range append(outside(n), 0, n-1) {
			if j.Same(k, other) || j.Same(other, k) {
				t.Errorf("%s: Same of %d and %d", what, k, other)
			}
		}
	}
}

// P6.1

func TestNew(t *testing.T) {
	for _, n := range []int{0, 1, 2, 3, 64, 65} {
		j := join.New(n)
		if j == nil {
			t.Fatalf("New(%d) is nil", n)
		}
		wantModel(t, "a new one", j, modelOf(n))
	}
}

func TestRoom(t *testing.T) {
	for _, c := range []struct{ n, room int }{
		{math.MinInt, 0}, {-1, 0}, {0, 0}, {1, 1},
		{api.MaxBits - 1, api.MaxBits - 1}, {api.MaxBits, api.MaxBits},
		{api.MaxBits + 1, api.MaxBits}, {math.MaxInt, api.MaxBits},
	} {
		j := join.New(c.n)
		if j == nil {
			t.Fatalf("New(%d) is nil", c.n)
		}
		if got := j.Len(); got != c.room {
			t.Errorf("New(%d): Len %d, want %d", c.n, got, c.room)
		}
		sets := j.Sets()
		if len(sets) != c.room {
			t.Errorf("New(%d): %d sets, want %d", c.n, len(sets), c.room)
		}
		for k, set := range sets {
			if !slices.Equal(set, []int{k}) || j.Find(k) != k || j.Label(k) != k || !j.Same(k, k) {
				t.Fatalf("New(%d): %d is not by itself: %v, Find %d, Label %d", c.n, k, set, j.Find(k), j.Label(k))
			}
		}
		wantNothingOutside(t, "a new one", j, c.room)
		if j.Unite(0, c.room, 0) || j.Unite(c.room, 0, 0) {
			t.Errorf("New(%d): united with %d", c.n, c.room)
		}
		if j.Len() != c.room {
			t.Errorf("New(%d): Len %d after what it has no room for", c.n, j.Len())
		}
	}
}

func TestExample(t *testing.T) {
	j := join.New(3)
	if !j.Unite(0, 2, 2) {
		t.Error("Unite(0, 2, 2) is false")
	}
	if got := j.Label(0); got != 2 {
		t.Errorf("Label(0) %d, want 2", got)
	}
}

func TestUnite(t *testing.T) {
	j, m := join.New(8), modelOf(8)
	for _, c := range []struct {
		what        string
		a, b, label int
		want        bool
	}{
		{"two single ones, labelled by one", 5, 3, 5, true},
		{"the same again", 5, 3, 5, false},
		{"turned, and otherwise labelled", 3, 5, 3, false},
		{"one with itself", 1, 1, 1, false},
		{"one with itself, otherwise labelled", 1, 1, 2, false},
		{"a single one with two, labelled by a third", 1, 5, 7, true},
		{"the one that labels is not in the set", 7, 6, 6, true},
		{"two that are in one set by another", 1, 3, 0, false},
		{"two sets, a lesser number in the second", 6, 3, 6, true},
		{"a lesser number still", 0, 7, 0, true},
		{"labelled by one of another set", 2, 4, 0, true},
		{"all", 4, 5, 2, true},
		{"none is left", 2, 0, 1, false},
	} {
		if got := j.Unite(c.a, c.b, c.label); got != c.want {
			t.Errorf("%s: Unite(%d, %d, %d) %v, want %v", c.what, c.a, c.b, c.label, got, c.want)
		}
		if m.unite(c.a, c.b, c.label) != c.want {
			t.Fatalf("%s: the test is wrong", c.what)
		}
		wantModel(t, c.what, j, m)
	}
}

func TestUniteRefuses(t *testing.T) {
	j, m := join.New(5), modelOf(5)
	j.Unite(1, 3, 4)
	m.unite(1, 3, 4)
	for _, none := range outside(5) {
		for _, c := range [][3]int{
			{none, 0, 0}, {0, none, 0}, {0, 1, none}, {none, none, 0}, {none, 1, none},
			{2, none, none}, {none, none, none}, {1, 3, none}, {2, 2, none},
		} {
			if j.Unite(c[0], c[1], c[2]) {
				t.Errorf("Unite(%d, %d, %d) is true", c[0], c[1], c[2])
			}
			wantModel(t, "after what is none", j, m)
		}
	}
	if !j.Unite(0, 1, 0) {
		t.Error("Unite(0, 1, 0) after what is none is false")
	}
}

func TestSetsAreNewMemory(t *testing.T) {
	j, m := join.New(6), modelOf(6)
	for _, c := range [][3]int{{5, 0, 0}, {2, 3, 3}, {2, 5, 1}} {
		j.Unite(c[0], c[1], c[2])
		m.unite(c[0], c[1], c[2])
	}
	sets := j.Sets()
	for i, set := range sets {
		others := slices.Delete(slices.Clone(sets), i, i+1)
		kept := make([][]int, len(others))
		for at, other := range others {
			kept[at] = slices.Clone(other)
		}
		for at := range set[:cap(set)] {
			set[:cap(set)][at] = 4
		}
		if !sameSets(others, kept) {
			t.Errorf("the set %d shares memory with another", i)
		}
	}
	clear(sets[:cap(sets)])
	wantModel(t, "after its sets were written into", j, m)
}

func TestEachGoesOnByItself(t *testing.T) {
	one, other := join.New(4), join.New(4)
	one.Unite(0, 3, 2)
	wantModel(t, "another one", other, modelOf(4))
}

func TestNil(t *testing.T) {
	var none *join.Join
	for what, j := range map[string]*join.Join{"nil": none, "the zero value": new(join.Join), "no room": join.New(0)} {
		wantModel(t, what, j, modelOf(0))
		for _, k := range []int{0, 1, -1, math.MaxInt} {
			if j.Unite(k, 0, 0) || j.Unite(0, 1, k) {
				t.Errorf("%s: Unite is true", what)
			}
			if j.Find(k) != -1 || j.Label(k) != -1 || j.Same(k, k) {
				t.Errorf("%s: %d is in a set", what, k)
			}
		}
		if len(j.Sets()) != 0 || j.Len() != 0 {
			t.Errorf("%s: there are sets", what)
		}
	}
}

// TestEveryOrder does every row of three calls, with whatever they may be given, on four numbers.
func TestEveryOrder(t *testing.T) {
	const n = 4
	var calls [][3]int
	for a := range n {
		for b := range n {
			calls = append(calls, [3]int{a, b, (a + 2*b) % n}, [3]int{a, b, (3*a + b + 1) % n})
		}
	}
	for first := range calls {
		for second := range calls {
			for third := range calls {
				j, m := join.New(n), modelOf(n)
				for _, at := range []int{first, second, third} {
					c := calls[at]
					if got, want := j.Unite(c[0], c[1], c[2]), m.unite(c[0], c[1], c[2]); got != want {
						t.Fatalf("%v %v %v: Unite%v %v, want %v", calls[first], calls[second], calls[third], c, got, want)
					}
				}
				wantModel(t, "three calls", j, m)
				if t.Failed() {
					t.Fatalf("%v %v %v", calls[first], calls[second], calls[third])
				}
			}
		}
	}
}

// TestChance does long rows of calls, some with what is none, as a small rule gives them.
func TestChance(t *testing.T) {
	seed := uint32(1)
	next := func(n int) int {
		seed = seed*1664525 + 1013904223
		return int(seed>>8) % n
	}
	for range 60 {
		n := 1 + next(40)
		j, m := join.New(n), modelOf(n)
		for range 2 * n {
			a, b, label := next(n+2)-1, next(n+2)-1, next(n+2)-1
			if got, want := j.Unite(a, b, label), m.unite(a, b, label); got != want {
				t.Fatalf("%d numbers: Unite(%d, %d, %d) %v, want %v", n, a, b, label, got, want)
			}
		}
		wantModel(t, "a row of chance", j, m)
		if t.Failed() {
			return
		}
	}
}

// TestLongRows: as many numbers as there may be, in one set at last, whichever way they come together.
func TestLongRows(t *testing.T) {
	const n = api.MaxBits
	for what, pair := range map[string]func(k int) (int, int){
		"rising":           func(k int) (int, int) { return k - 1, k },
		"rising, turned":   func(k int) (int, int) { return k, k - 1 },
		"falling":          func(k int) (int, int) { return n - k, n - k - 1 },
		"falling, turned":  func(k int) (int, int) { return n - k - 1, n - k },
		"each to the last": func(k int) (int, int) { return n - 1, k - 1 },
	} {
		j := join.New(n)
		for k := 1; k < n; k++ {
			a, b := pair(k)
			if !j.Unite(a, b, k) {
				t.Fatalf("%s: Unite(%d, %d, %d) is false", what, a, b, k)
			}
			if j.Len() != n-k || j.Label(a) != k || j.Label(b) != k {
				t.Fatalf("%s: after Unite(%d, %d, %d): Len %d, labels %d, %d", what, a, b, k, j.Len(), j.Label(a), j.Label(b))
			}
		}
		for k := range n {
			if j.Find(k) != 0 || j.Label(k) != n-1 {
				t.Fatalf("%s: Find(%d) %d, Label %d", what, k, j.Find(k), j.Label(k))
			}
		}
		if got := j.Sets(); !sameSets(got, [][]int{count(n)}) {
			t.Errorf("%s: %d sets", what, len(got))
		}
	}
}
