package bits_test

import (
	"math"
	"slices"
	"testing"

	"garland/api"
	"garland/bits"
)

func setOf(n int, numbers ...int) *bits.Set {
	s := bits.New(n)
	for _, k := range numbers {
		s.Put(k)
	}
	return s
}

func wantList(t *testing.T, what string, s *bits.Set, want ...int) {
	t.Helper()
	if got := s.List(); !slices.Equal(got, want) {
		t.Errorf("%s: List %v, want %v", what, got, want)
	}
	if got := s.Len(); got != len(want) {
		t.Errorf("%s: Len %d, want %d", what, got, len(want))
	}
}

func wantNumber(t *testing.T, what string, got, want int) {
	t.Helper()
	if got != want {
		t.Errorf("%s: %d, want %d", what, got, want)
	}
}

func wantBool(t *testing.T, what string, got, want bool) {
	t.Helper()
	if got != want {
		t.Errorf("%s: %v, want %v", what, got, want)
	}
}

// P1.1

func TestNewIsEmpty(t *testing.T) {
	for _, n := range []int{0, 1, 63, 64, 65, 200, api.MaxBits} {
		s := bits.New(n)
		if s == nil {
			t.Fatalf("New(%d) is nil", n)
		}
		wantList(t, "a new set", s)
		wantNumber(t, "Least of a new set", s.Least(0), -1)
	}
}

func TestRoom(t *testing.T) {
	for _, c := range []struct{ n, room int }{
		{math.MinInt, 0}, {-1, 0}, {0, 0}, {1, 1}, {63, 63}, {64, 64}, {65, 65}, {100, 100},
		{api.MaxBits - 1, api.MaxBits - 1}, {api.MaxBits, api.MaxBits},
		{api.MaxBits + 1, api.MaxBits}, {math.MaxInt, api.MaxBits},
	} {
		s := bits.New(c.n)
		if c.room > 0 {
			wantBool(t, "Put of the last that there is room for", s.Put(c.room-1), true)
			wantBool(t, "Has of the last that there is room for", s.Has(c.room-1), true)
			wantList(t, "the last alone", s, c.room-1)
			s.Drop(c.room - 1)
		}
		for _, k := range []int{c.room, c.room + 1, c.room + 64, math.MaxInt, -1, -64, math.MinInt} {
			wantBool(t, "Put without room", s.Put(k), false)
			wantBool(t, "Has without room", s.Has(k), false)
			wantBool(t, "Drop without room", s.Drop(k), false)
		}
		wantList(t, "a set after what it has no room for", s)
	}
}

func TestPutTellsWhatIsNew(t *testing.T) {
	s := bits.New(10)
	wantBool(t, "first Put(5)", s.Put(5), true)
	wantBool(t, "Put(3)", s.Put(3), true)
	wantBool(t, "second Put(5)", s.Put(5), false)
	wantList(t, "after Put", s, 3, 5)
	wantBool(t, "Has(5)", s.Has(5), true)
	wantBool(t, "Has(4)", s.Has(4), false)
}

func TestDropTellsWhatWasThere(t *testing.T) {
	s := setOf(200, 0, 63, 64, 199)
	wantBool(t, "Drop of what is not there", s.Drop(1), false)
	wantBool(t, "Drop(64)", s.Drop(64), true)
	wantBool(t, "Drop(64) again", s.Drop(64), false)
	wantBool(t, "Has(64)", s.Has(64), false)
	wantList(t, "after Drop", s, 0, 63, 199)
	wantBool(t, "Put(64) after Drop", s.Put(64), true)
	wantList(t, "after Put", s, 0, 63, 64, 199)
}

func TestListRises(t *testing.T) {
	wantList(t, "numbers put in any order", setOf(300, 299, 64, 0, 128, 63, 127, 1, 64, 0), 0, 1, 63, 64, 127, 128, 299)
	full := bits.New(api.MaxBits)
	var all []int
	for k := api.MaxBits - 1; k >= 0; k-- {
		full.Put(k)
	}
	for k := range api.MaxBits {
		all = append(all, k)
	}
	wantList(t, "a full set", full, all...)
}

func TestListIsNewMemory(t *testing.T) {
	s := setOf(10, 1, 2, 3)
	list := s.List()
	list[0] = 9
	_ = append(list[:1], 7, 7)
	wantList(t, "a set whose list was written into", s, 1, 2, 3)
}

func TestLeast(t *testing.T) {
	s := setOf(400, 3, 63, 64, 300)
	for _, c := range [][2]int{
		{math.MinInt, 3}, {-1, 3}, {0, 3}, {3, 3}, {4, 63}, {63, 63}, {64, 64}, {65, 300}, {128, 300},
		{300, 300}, {301, -1}, {399, -1}, {400, -1}, {401, -1}, {math.MaxInt, -1},
	} {
		wantNumber(t, "Least", s.Least(c[0]), c[1])
	}
	wantNumber(t, "Least without room", bits.New(0).Least(0), -1)
	wantNumber(t, "Least without room, from below", bits.New(-7).Least(-7), -1)
	wantNumber(t, "Least of the last", setOf(64, 63).Least(63), 63)
	wantNumber(t, "Least past the last", setOf(64, 63).Least(64), -1)
}

func TestNilSet(t *testing.T) {
	var s *bits.Set
	for _, k := range []int{-1, 0, 1, api.MaxBits} {
		wantBool(t, "Put of nil", s.Put(k), false)
		wantBool(t, "Drop of nil", s.Drop(k), false)
		wantBool(t, "Has of nil", s.Has(k), false)
		wantNumber(t, "Least of nil", s.Least(k), -1)
	}
	wantList(t, "nil", s)
}

func TestZeroSetHasNoRoom(t *testing.T) {
	var s bits.Set
	wantBool(t, "Put", s.Put(0), false)
	wantBool(t, "Drop", s.Drop(0), false)
	wantBool(t, "Has", s.Has(0), false)
	wantNumber(t, "Least", s.Least(0), -1)
	wantNumber(t, "Join", s.Join(setOf(3, 1)), 0)
	wantNumber(t, "Less", s.Less(setOf(3, 1)), 0)
	wantNumber(t, "Common", s.Common(setOf(3, 1)), 0)
	wantList(t, "the zero set", &s)
	wantList(t, "a fork of the zero set", s.Fork())
}

// P1.2

func TestJoin(t *testing.T) {
	s, o := setOf(200, 1, 64, 130), setOf(200, 0, 1, 63, 130, 199)
	wantNumber(t, "Join", s.Join(o), 3)
	wantList(t, "joined", s, 0, 1, 63, 64, 130, 199)
	wantList(t, "what was joined in", o, 0, 1, 63, 130, 199)
	wantNumber(t, "Join again", s.Join(o), 0)
	wantNumber(t, "Join of an empty one", s.Join(bits.New(200)), 0)
	wantNumber(t, "Join into an empty one", bits.New(200).Join(o), 5)
}

func TestJoinWithoutRoom(t *testing.T) {
	s, o := setOf(66, 2), setOf(200, 2, 3, 65, 66, 67, 127, 128, 199)
	wantNumber(t, "Join", s.Join(o), 2)
	wantList(t, "joined as far as there is room", s, 2, 3, 65)
	wantBool(t, "Has of what there is no room for", s.Has(66), false)
	wantNumber(t, "Join of a smaller one", o.Join(setOf(5, 4)), 1)
	wantNumber(t, "Join without any room", bits.New(0).Join(o), 0)
}

func TestLess(t *testing.T) {
	s, o := setOf(100, 1, 64, 99), setOf(200, 0, 1, 99, 150)
	wantNumber(t, "Less", s.Less(o), 2)
	wantList(t, "what is left", s, 64)
	wantList(t, "what was taken out", o, 0, 1, 99, 150)
	wantNumber(t, "Less again", s.Less(o), 0)
	wantNumber(t, "Less of a smaller one", o.Less(setOf(2, 0, 1)), 2)
	wantList(t, "what is left", o, 99, 150)
}

func TestCommon(t *testing.T) {
	s, o := setOf(100, 1, 64, 99), setOf(200, 0, 1, 99, 150)
	wantNumber(t, "Common", s.Common(o), 2)
	wantNumber(t, "Common the other way", o.Common(s), 2)
	wantNumber(t, "Common of sets apart", s.Common(setOf(100, 2, 63)), 0)
	wantList(t, "the one", s, 1, 64, 99)
	wantList(t, "the other", o, 0, 1, 99, 150)
}

func TestSetWithItself(t *testing.T) {
	s := setOf(200, 0, 63, 64, 65, 199)
	wantNumber(t, "Join with itself", s.Join(s), 0)
	wantNumber(t, "Common with itself", s.Common(s), 5)
	wantList(t, "a set joined with itself", s, 0, 63, 64, 65, 199)
	wantNumber(t, "Less of itself", s.Less(s), 5)
	wantList(t, "a set less itself", s)
}

func TestNilCountsAsEmpty(t *testing.T) {
	var none *bits.Set
	s := setOf(10, 1, 2)
	wantNumber(t, "Join(nil)", s.Join(nil), 0)
	wantNumber(t, "Less(nil)", s.Less(nil), 0)
	wantNumber(t, "Common(nil)", s.Common(nil), 0)
	wantNumber(t, "Join of nil", none.Join(s), 0)
	wantNumber(t, "Less of nil", none.Less(s), 0)
	wantNumber(t, "Common of nil", none.Common(s), 0)
	wantNumber(t, "Join of nil and nil", none.Join(nil), 0)
	wantNumber(t, "Less of nil and nil", none.Less(nil), 0)
	wantNumber(t, "Common of nil and nil", none.Common(nil), 0)
	wantList(t, "a set beside nil", s, 1, 2)
}

func TestForkGoesOnByItself(t *testing.T) {
	s := setOf(70, 1, 69)
	f := s.Fork()
	wantList(t, "a fork", f, 1, 69)
	f.Put(2)
	f.Drop(1)
	wantList(t, "the fork", f, 2, 69)
	wantList(t, "what it was forked from", s, 1, 69)
	s.Put(3)
	s.Drop(69)
	wantList(t, "the fork, after the other went on", f, 2, 69)
	wantBool(t, "Put past the fork's room", f.Put(70), false)
	wantBool(t, "Put of the last in the fork", s.Fork().Put(69), true)
	if bits.New(0).Fork() == nil {
		t.Error("Fork of an empty set is nil")
	}
	var none *bits.Set
	if none.Fork() != nil {
		t.Error("Fork of nil is not nil")
	}
}

// A long run of calls, held against plain lists of yes and no.
func TestAgainstPlainLists(t *testing.T) {
	rooms := []int{0, 1, 64, 90, 130}
	var sets []*bits.Set
	var plain [][]bool
	for _, n := range rooms {
		sets = append(sets, bits.New(n))
		plain = append(plain, make([]bool, n))
	}
	seed := uint32(1)
	next := func(n int) int {
		seed = seed*1664525 + 1013904223
		return int(seed>>8) % n
	}
	for range 20000 {
		a, b, k := next(len(sets)), next(len(sets)), next(140)-5
		switch next(12) {
		case 0:
			wantNumber(t, "Join", sets[a].Join(sets[b]), plainChange(plain[a], plain[b], true))
		case 1:
			wantNumber(t, "Less", sets[a].Less(sets[b]), plainChange(plain[a], plain[b], false))
		case 2, 3, 4:
			wantBool(t, "Drop", sets[a].Drop(k), plainSet(plain[a], k, false))
		default:
			wantBool(t, "Put", sets[a].Put(k), plainSet(plain[a], k, true))
		}
		wantNumber(t, "Common", sets[a].Common(sets[b]), plainCommon(plain[a], plain[b]))
		wantNumber(t, "Least", sets[a].Least(k), plainLeast(plain[a], k))
		wantList(t, "a set", sets[a], plainList(plain[a])...)
		if t.Failed() {
			return
		}
	}
}

func plainSet(p []bool, k int, to bool) bool {
	if k < 0 || k >= len(p) || p[k] == to {
		return false
	}
	p[k] = to
	return true
}

func plainChange(p, other []bool, to bool) int {
	count := 0
	for _, k := range plainList(other) {
		if plainSet(p, k, to) {
			count++
		}
	}
	return count
}

func plainCommon(p, other []bool) int {
	count := 0
	for k := range min(len(p), len(other)) {
		if p[k] && other[k] {
			count++
		}
	}
	return count
}

func plainLeast(p []bool, from int) int {
	for k := max(from, 0); k < len(p); k++ {
		if p[k] {
			return k
		}
	}
	return -1
}

func plainList(p []bool) []int {
	var list []int
	for k, in := range p {
		if in {
			list = append(list, k)
		}
	}
	return list
}
