package regex_test

import (
	"boskage/api"
	"boskage/regex"
	"boskage/sample"
	"slices"
	"testing"
)

// letters are names of as many letters as there can be.
var letters = []string{"a", "b", "c", "d", "e", "f", "g", "h", "i", "j", "k", "l"}

// badNumbers are numbers of letters that are out of range.
var badNumbers = []int{-1, api.MaxTypes + 1, 1 << 40, -1 << 63, 1<<63 - 1}

// read reads an expression over the letters a, b and so on.
func read(t *testing.T, n int, text string) api.Expr {
	t.Helper()
	e, err := regex.Parse(n, letters[:n], text)
	if err != api.OK {
		t.Fatalf("%s: error %d", text, err)
	}
	return e
}

// repeat makes the expression of k copies of e, one after the other.
func repeat(e api.Expr, k int) api.Expr {
	return sample.Chained(api.Concat, e, slices.Repeat([]api.Expr{e}, k-1)...)
}

// anyOf makes the expression for any one of the first n letters.
func anyOf(n int) api.Expr {
	var all []api.Expr
	for letter := range n {
		all = append(all, sample.Letter(letter))
	}
	return sample.Chained(api.Either, all[0], all[1:]...)
}

// fromEnd makes an expression for the words over a and b with a letter a before
// their last k letters. No automaton for it has less than 2^(k+1) states.
func fromEnd(k int) api.Expr {
	all := sample.Op(api.Concat, sample.Op(api.Star, anyOf(2)), sample.Letter(0))
	return sample.Chained(api.Concat, all, slices.Repeat([]api.Expr{anyOf(2)}, k)...)
}

// random makes expressions over n letters with 1 to nodes nodes.
func random(n, number, nodes int) []api.Expr {
	var s sample.Source
	var list []api.Expr
	for range number {
		list = append(list, sample.Expression(&s, n, 1+s.Below(nodes)))
	}
	return list
}

// few reports whether expressions have at most 8 nodes with the Op Letter.
func few(expressions ...api.Expr) bool {
	count := 0
	for _, e := range expressions {
		count += len(sample.Letters(e))
	}
	return count <= 8
}

// language lists the words over n letters with at most so many letters that are
// in the language of e.
func language(n int, e api.Expr, most int) [][]int {
	return slices.DeleteFunc(sample.Words(n, most), func(w []int) bool { return !sample.Has(e, w) })
}

// leads reports whether a word takes d from a state to a final one.
func leads(d regex.Dfa, state int, word []int) bool {
	for _, letter := range word {
		state = d.Next[state][letter]
	}
	return d.Final[state]
}

// same reports whether two automata are the same, where an empty list equals nil.
func same(d, e regex.Dfa) bool {
	return d.States == e.States && slices.Equal(d.Final, e.Final) && slices.EqualFunc(d.Next, e.Next, slices.Equal[[]int])
}

// equalLists reports whether two lists of lists are the same.
func equalLists(a, b [][]int) bool {
	return slices.EqualFunc(a, b, slices.Equal[[]int])
}

// wellFormed reports whether d is a complete automaton over n letters whose
// states are numbered in a breadth-first traversal.
func wellFormed(n int, d regex.Dfa) bool {
	if d.States < 1 || d.States > api.MaxStates || len(d.Final) != d.States || len(d.Next) != d.States {
		return false
	}
	found := 1
	for state, row := range d.Next {
		if len(row) != n || state >= found {
			return false
		}
		for _, next := range row {
			if next < 0 || next > found {
				return false
			}
			found = max(found, next+1)
		}
	}
	return found == d.States
}

// reduced reports whether no two states of d have the same words that lead to
// final states.
func reduced(d regex.Dfa) bool {
	apart := make([][]bool, d.States)
	for s := range apart {
		apart[s] = make([]bool, d.States)
		for t := range apart[s] {
			apart[s][t] = d.Final[s] != d.Final[t]
		}
	}
	for changed := true; changed; {
		changed = false
		for s, row := range d.Next {
			for t := range s {
				for letter, next := range row {
					if !apart[s][t] && apart[next][d.Next[t][letter]] {
						apart[s][t], apart[t][s], changed = true, true, true
					}
				}
			}
		}
	}
	for s := range apart {
		for t := range s {
			if !apart[s][t] {
				return false
			}
		}
	}
	return true
}

// zero reports whether d is the zero value.
func zero(d regex.Dfa) bool {
	return d.States == 0 && len(d.Final) == 0 && len(d.Next) == 0
}
