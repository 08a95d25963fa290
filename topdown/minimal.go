package topdown

import (
	"boskage/api"
	"boskage/explore"
	"slices"
)

// Minimal returns the minimal automaton of the language of d.
func Minimal(al api.Alphabet, d api.Topdown) (api.Topdown, api.Errno) {
	trimmed, e := Trim(al, d)
	if e != api.OK || trimmed.Start == nothing {
		return trimmed, e
	}
	class := classes(trimmed)
	return explore.Topdown(al, class[trimmed.Start], func(from, sym int) []int {
		kids := slices.Clone(trimmed.Next[slices.Index(class, from)][sym])
		for i, state := range kids {
			kids[i] = class[state]
		}
		return kids
	})
}

// signature contains for each symbol whether a state has a transition, and the
// classes of the states for the subtrees.
type signature [api.MaxSymbols][1 + api.MaxRank]int

// classes returns a number for each state of d, which is the same for two
// states if and only if the same trees are accepted from them. d is trim, so
// that each transition counts.
func classes(d api.Topdown) []int {
	class := make([]int, d.States)
	for number := 1; ; {
		numbers := map[signature]int{}
		refined := make([]int, d.States)
		for state := range refined {
			x := signatureOf(d.Next[state], class)
			if _, known := numbers[x]; !known {
				numbers[x] = len(numbers)
			}
			refined[state] = numbers[x]
		}
		if len(numbers) == number {
			return class
		}
		class, number = refined, len(numbers)
	}
}

// signatureOf returns the signature of a state with the given transitions.
func signatureOf(row [][]int, class []int) signature {
	var x signature
	for sym, kids := range row {
		if kids == nil {
			continue
		}
		x[sym][0] = 1
		for i, state := range kids {
			x[sym][1+i] = class[state]
		}
	}
	return x
}

// Same reports whether d and e have the same language.
func Same(al api.Alphabet, d, e api.Topdown) (bool, api.Errno) {
	first, err := Minimal(al, d)
	if err != api.OK {
		return false, err
	}
	second, err := Minimal(al, e)
	if err != api.OK {
		return false, err
	}
	return identical(first, second), api.OK
}

// identical reports whether two automata are the same in all parts.
func identical(d, e api.Topdown) bool {
	equalNext := elementwise(elementwise(equalTransitions))
	return d.States == e.States && d.Start == e.Start && equalNext(d.Next, e.Next)
}

// elementwise returns a function that compares lists by their elements.
func elementwise[T any](equal func(x, y T) bool) func(x, y []T) bool {
	return func(x, y []T) bool {
		return slices.EqualFunc(x, y, equal)
	}
}

// equalTransitions reports whether two transitions are the same, where none
// differs from one to no states.
func equalTransitions(x, y []int) bool {
	return (x == nil) == (y == nil) && slices.Equal(x, y)
}
