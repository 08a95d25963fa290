// Package bitset contains sets of states. They are values: they can be
// compared, and be the keys of a map.
package bitset

import (
	"boskage/api"
	"math/bits"
)

const words = (api.MaxStates + 63) / 64

// Set is a set of states, which are from 0 to MaxStates - 1.
type Set [words]uint64

// Of returns the set of the given states.
func Of(states ...int) Set {
	var s Set
	for _, state := range states {
		s.Add(state)
	}
	return s
}

// Add adds a state to s.
func (s *Set) Add(state int) {
	s[state/64] |= 1 << (state % 64)
}

// Unite adds all states of other to s.
func (s *Set) Unite(other *Set) {
	for i, word := range other {
		s[i] |= word
	}
}

// Has reports whether state is in s.
func (s *Set) Has(state int) bool {
	return s[state/64]&(1<<(state%64)) != 0
}

// Meets reports whether s and other have a state in common.
func (s *Set) Meets(other *Set) bool {
	for i, word := range other {
		if s[i]&word != 0 {
			return true
		}
	}
	return false
}

// Within reports whether all states of s are in other.
func (s *Set) Within(other *Set) bool {
	for i, word := range other {
		if s[i]&^word != 0 {
			return false
		}
	}
	return true
}

// List returns the states of s in increasing order.
func (s *Set) List() []int {
	var list []int
	for i, word := range s {
		for word != 0 {
			list = append(list, 64*i+bits.TrailingZeros64(word))
			word &= word - 1
		}
	}
	return list
}
