// Package bits is layer 1: sets of small numbers. See shared/doc/01-bits.md.
package bits

import (
	"math/bits"
	"slices"

	"garland/api"
)

const wordBits = 64

// Set holds numbers from 0 to room - 1: k is bit k % 64 of word k / 64.
// A nil set is empty and has no room; so is the zero value.
type Set struct {
	room  int
	words []uint64
}

// New makes an empty set with room for the numbers from 0 to n - 1.
func New(n int) *Set {
	room := min(max(n, 0), api.MaxBits)
	return &Set{room: room, words: make([]uint64, (room+wordBits-1)/wordBits)}
}

// Put lays k into the set and tells whether it was not there.
func (s *Set) Put(k int) bool {
	if !s.fits(k) || s.Has(k) {
		return false
	}
	s.words[k/wordBits] |= bitOf(k)
	return true
}

// Drop takes k out of the set and tells whether it was there.
func (s *Set) Drop(k int) bool {
	if !s.Has(k) {
		return false
	}
	s.words[k/wordBits] &^= bitOf(k)
	return true
}

// Has tells whether k is in the set.
func (s *Set) Has(k int) bool {
	return s.fits(k) && s.words[k/wordBits]&bitOf(k) != 0
}

// Len tells how many numbers the set has.
func (s *Set) Len() int {
	if s == nil {
		return 0
	}
	count := 0
	for _, w := range s.words {
		count += bits.OnesCount64(w)
	}
	return count
}

// List tells the numbers of the set, rising.
func (s *Set) List() []int {
	list := make([]int, 0, s.Len())
	for k := s.Least(0); k >= 0; k = s.Least(k + 1) {
		list = append(list, k)
	}
	return list
}

// Least tells the least number of the set that is not below from, or -1.
func (s *Set) Least(from int) int {
	start := max(from, 0)
	if !s.fits(start) {
		return -1
	}
	at := start / wordBits
	// Only the first word has bits ahead of start: they must not be found.
	w := s.words[at] &^ (bitOf(start) - 1)
	for w == 0 {
		at++
		if at == len(s.words) {
			return -1
		}
		w = s.words[at]
	}
	return at*wordBits + bits.TrailingZeros64(w)
}

// Join lays all of t that there is room for into the set and tells how many are new.
func (s *Set) Join(t *Set) int { return s.countEach(t, (*Set).Put) }

// Less takes all of t out of the set and tells how many were there.
func (s *Set) Less(t *Set) int { return s.countEach(t, (*Set).Drop) }

// Common tells how many numbers both sets have.
func (s *Set) Common(t *Set) int { return s.countEach(t, (*Set).Has) }

// Fork makes another set with the same room and numbers; nil of nil.
func (s *Set) Fork() *Set {
	if s == nil {
		return nil
	}
	return &Set{room: s.room, words: slices.Clone(s.words)}
}

// fits tells whether there is room for k.
func (s *Set) fits(k int) bool { return s != nil && k >= 0 && k < s.room }

// countEach does a thing with each number of t and tells how often the set said yes.
// t is asked anew for each next number, so that t may be s itself while s changes.
func (s *Set) countEach(t *Set, do func(*Set, int) bool) int {
	count := 0
	for k := t.Least(0); k >= 0; k = t.Least(k + 1) {
		if do(s, k) {
			count++
		}
	}
	return count
}

// bitOf is the bit of k within its word; k is not negative.
func bitOf(k int) uint64 { return 1 << (k % wordBits) }
