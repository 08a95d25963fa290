package regex

import (
	"boskage/api"
	"boskage/work"
	"iter"
	"slices"
)

// mostWords is the number of words that Words returns at most, and longest the
// number of letters that they can have.
const (
	mostWords = 4096
	longest   = 6
)

// step says how a pair is reached: by a letter, from the pair with a number.
type step struct {
	from, letter int
}

// Same reports whether e and f have the same language, and otherwise returns
// the first word that is in exactly one of the languages.
//
// The pairs of sets of nodes that both machines are at after the same word are
// found in the order of the least such words.
func Same(n int, e, f api.Expr) (bool, []int, api.Errno) {
	if !Valid(n, e) || !Valid(n, f) {
		return false, nil, api.ErrArg
	}
	x, y := newMachine(e), newMachine(f)
	var pairs work.Numbering[[2]set]
	pairs.Of([2]set{x.begin, y.begin})
	steps := []step{{}}
	for number, at := range pairs.All() {
		if number == mostSets {
			return false, nil, api.ErrFull
		}
		if x.accepts(at[0]) != y.accepts(at[1]) {
			return false, wordOf(steps, number), api.OK
		}
		for letter := range n {
			next := [2]set{x.next(at[0], letter), y.next(at[1], letter)}
			if pairs.Of(next) == len(steps) {
				steps = append(steps, step{number, letter})
			}
		}
	}
	return true, nil, api.OK
}

// wordOf returns the word by which the pair with a number is reached.
func wordOf(steps []step, number int) []int {
	var word []int
	for number > 0 {
		word = append(word, steps[number].letter)
		number = steps[number].from
	}
	slices.Reverse(word)
	return word
}

// Words returns the words of the language of e with at most most letters.
func Words(n int, e api.Expr, most int) ([][]int, api.Errno) {
	if !Valid(n, e) {
		return nil, api.ErrArg
	}
	if most < 0 || most > longest {
		return nil, api.ErrRange
	}
	m := newMachine(e)
	var words [][]int
	for length := range most + 1 {
		for word := range m.words(n, length) {
			if len(words) == mostWords {
				return nil, api.ErrFull
			}
			words = append(words, word)
		}
	}
	return words, api.OK
}

// words yields the words with the given number of letters, in their order. It
// follows only nodes from which a word can end after the right number of
// letters, so that no beginning is in vain.
func (m *machine) words(n, length int) iter.Seq[[]int] {
	ahead := m.ahead(length)
	return func(yield func([]int) bool) {
		word := make([]int, length)
		var extend func(at set, left int) bool
		extend = func(at set, left int) bool {
			if left == 0 {
				return yield(slices.Clone(word))
			}
			for letter := range n {
				word[length-left] = letter
				next := m.next(at, letter) & ahead[left-1]
				if next != 0 && !extend(next, left-1) {
					return false
				}
			}
			return true
		}
		if m.begin&ahead[length] != 0 {
			extend(m.begin, length)
		}
	}
}

// ahead returns for each number of letters up to most the nodes after which a
// word can end with that many letters more.
func (m *machine) ahead(most int) []set {
	sets := []set{m.ends}
	for left := range most {
		var before set
		for node, after := range m.after {
			if after&sets[left] != 0 {
				before |= only(node)
			}
		}
		sets = append(sets, before)
	}
	return sets
}
