package regex

import (
	"boskage/api"
	"boskage/work"
)

// mostSets is the number of sets of nodes, or of pairs of them, up to which
// machines are followed. Expressions with at most 8 letters have fewer.
const mostSets = 1 << 14

// Minimal returns the minimal automaton of the language of e.
func Minimal(n int, e api.Expr) (Dfa, api.Errno) {
	if !Valid(n, e) {
		return Dfa{}, api.ErrArg
	}
	d, complete := subsets(n, newMachine(e))
	if !complete {
		return Dfa{}, api.ErrFull
	}
	return merge(d)
}

// subsets returns the automaton whose states are the sets of nodes that m can
// be at, in the order of the least words that lead to them. It returns false if
// they are too many.
func subsets(n int, m *machine) (Dfa, bool) {
	var d Dfa
	var sets work.Numbering[set]
	sets.Of(m.begin)
	for number, at := range sets.All() {
		if number == mostSets {
			return Dfa{}, false
		}
		row := make([]int, n)
		for letter := range row {
			row[letter] = sets.Of(m.next(at, letter))
		}
		d.Next = append(d.Next, row)
		d.Final = append(d.Final, m.accepts(at))
	}
	d.States = sets.Len()
	return d, true
}

// merge returns the automaton of the classes of states of d that the same words
// take to final states. If the states of d are in the order of the least words
// that lead to them, so are the classes.
func merge(d Dfa) (Dfa, api.Errno) {
	var merged Dfa
	class := classes(d)
	for state, number := range class {
		if number < merged.States {
			continue
		}
		merged.States++
		row := make([]int, len(d.Next[state]))
		for letter, next := range d.Next[state] {
			row[letter] = class[next]
		}
		merged.Next = append(merged.Next, row)
		merged.Final = append(merged.Final, d.Final[state])
	}
	if merged.States > api.MaxStates {
		return Dfa{}, api.ErrFull
	}
	return merged, api.OK
}

// signature tells states apart: by their own class, and by those of the states
// after each letter.
type signature [api.MaxTypes + 1]int

// classes returns the class of each state of d. Classes are numbered in the
// order of their first states.
func classes(d Dfa) []int {
	class := make([]int, d.States)
	for state, final := range d.Final {
		if final {
			class[state] = 1
		}
	}
	for known := 0; ; {
		var found work.Numbering[signature]
		finer := make([]int, d.States)
		for state, row := range d.Next {
			key := signature{class[state]}
			for letter, next := range row {
				key[letter+1] = class[next]
			}
			finer[state] = found.Of(key)
		}
		class = finer
		if found.Len() == known {
			return class
		}
		known = found.Len()
	}
}
