package mini

import (
	"boskage/api"
	"boskage/bitset"
	"boskage/rule"
	"cmp"
	"slices"
)

// hole marks the position of a state in the head of a rule.
const hole = -1

// use is an occurrence of a state in the From of a rule. The context is the
// number of the head in which a hole replaces the state.
type use struct {
	context, to int
}

// classes returns a number for each state of a, which is the same for two
// states if and only if their trees are equivalent. a is deterministic, and all
// its states are useful.
//
// Classes are split until states of one class have the same contexts, in each
// of which they lead to one class. The contexts name single states, not their
// classes: two states that lead to the same set of classes need not do so with
// the same partners.
func classes(a api.Automaton) []int {
	uses := usesOf(a)
	class := make([]int, a.States)
	accepted := bitset.Of(a.Final...)
	for state := range class {
		if accepted.Has(state) {
			class[state] = 1
		}
	}
	for number := 0; ; {
		numbers := map[string]int{}
		refined := make([]int, a.States)
		for state := range refined {
			refined[state] = numberOf(numbers, signature(class, state, uses[state]))
		}
		if len(numbers) == number {
			return class
		}
		class, number = refined, len(numbers)
	}
}

// usesOf returns the uses of each state of a in the order of their contexts.
func usesOf(a api.Automaton) [][]use {
	contexts := map[rule.Head]int{}
	uses := make([][]use, a.States)
	for _, r := range a.Rules {
		for pos, state := range r.From {
			context := rule.HeadOf(r.Sym, r.From)
			context.From[pos] = hole
			uses[state] = append(uses[state], use{numberOf(contexts, context), r.To})
		}
	}
	for _, list := range uses {
		slices.SortFunc(list, func(x, y use) int { return cmp.Compare(x.context, y.context) })
	}
	return uses
}

// signature returns a string that is the same for two states if and only if
// they have the same class, and the same contexts that lead to the same
// classes.
func signature(class []int, state int, uses []use) string {
	text := appendNumber(nil, class[state])
	for _, u := range uses {
		text = appendNumber(text, u.context)
		text = appendNumber(text, class[u.to])
	}
	return string(text)
}

// appendNumber appends two bytes: there are at most MaxRank * MaxRules contexts,
// which is less than 2^16.
func appendNumber(text []byte, number int) []byte {
	return append(text, byte(number>>8), byte(number))
}

// rounds returns the new number of each state of a, as the chapter numbers the
// states of minimal automata. a is deterministic, and all its states are
// reachable.
func rounds(a api.Automaton) []int {
	numbers := map[int]int{}
	for len(numbers) < a.States {
		for _, r := range round(a, numbers) {
			numberOf(numbers, r.To)
		}
	}
	list := make([]int, a.States)
	for state := range list {
		list[state] = numbers[state]
	}
	return list
}

// round returns the rules of a that lead from states with numbers to states
// without, in the order of their symbols and of the lists of these numbers,
// which replace From.
func round(a api.Automaton, numbers map[int]int) []api.Rule {
	var found []api.Rule
next:
	for _, r := range a.Rules {
		if _, known := numbers[r.To]; known {
			continue
		}
		var from []int
		for _, state := range r.From {
			number, known := numbers[state]
			if !known {
				continue next
			}
			from = append(from, number)
		}
		found = append(found, api.Rule{Sym: r.Sym, From: from, To: r.To})
	}
	slices.SortFunc(found, rule.Compare)
	return found
}

// numberOf returns the number of a key, which is the next one if it has none.
func numberOf[K comparable](numbers map[K]int, key K) int {
	number, known := numbers[key]
	if !known {
		number = len(numbers)
		numbers[key] = number
	}
	return number
}
