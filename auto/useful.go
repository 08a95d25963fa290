package auto

import (
	"boskage/api"
	"boskage/rule"
	"boskage/work"
	"slices"
)

// Reachable reports for each state whether some run assigns it to the root of
// a tree.
func Reachable(al api.Alphabet, a api.Automaton) ([]bool, api.Errno) {
	if !Valid(al, a) {
		return nil, api.ErrArg
	}
	return reachable(a), api.OK
}

func reachable(a api.Automaton) []bool {
	var todo work.List[int]
	uses := make([][]int, a.States)
	missing := make([]int, len(a.Rules))
	for i, r := range a.Rules {
		missing[i] = len(r.From)
		for _, state := range r.From {
			uses[state] = append(uses[state], i)
		}
		if missing[i] == 0 {
			todo.Add(r.To)
		}
	}
	reached := make([]bool, a.States)
	for state := range todo.All() {
		reached[state] = true
		for _, i := range uses[state] {
			missing[i]--
			if missing[i] == 0 {
				todo.Add(a.Rules[i].To)
			}
		}
	}
	return reached
}

// Useful reports for each state whether it occurs in a run on some tree that
// assigns a final state to the root.
func Useful(al api.Alphabet, a api.Automaton) ([]bool, api.Errno) {
	if !Valid(al, a) {
		return nil, api.ErrArg
	}
	return useful(a), api.OK
}

func useful(a api.Automaton) []bool {
	reached := reachable(a)
	sources := make([][]int, a.States)
	for _, r := range a.Rules {
		if allOf(reached, r.From) {
			sources[r.To] = append(sources[r.To], r.From...)
		}
	}
	var todo work.List[int]
	for _, state := range a.Final {
		if reached[state] {
			todo.Add(state)
		}
	}
	used := make([]bool, a.States)
	for state := range todo.All() {
		used[state] = true
		for _, source := range sources[state] {
			todo.Add(source)
		}
	}
	return used
}

// allOf reports whether marked is true for all of the states.
func allOf(marked []bool, states []int) bool {
	for _, state := range states {
		if !marked[state] {
			return false
		}
	}
	return true
}

// Trim returns the automaton of the useful states of a and of the rules
// between them.
func Trim(al api.Alphabet, a api.Automaton) (api.Automaton, api.Errno) {
	if !Valid(al, a) {
		return api.Automaton{}, api.ErrArg
	}
	used := useful(a)
	number := make([]int, a.States)
	var trimmed api.Automaton
	for state := range number {
		number[state] = trimmed.States
		if used[state] {
			trimmed.States++
		}
	}
	for _, state := range a.Final {
		if used[state] {
			trimmed.Final = append(trimmed.Final, number[state])
		}
	}
	trimmed.Rules = rulesBetween(a, used, number)
	return trimmed, api.OK
}

// rulesBetween returns the rules of a between the used states, with the new
// numbers of these, sorted and without duplicates.
func rulesBetween(a api.Automaton, used []bool, number []int) []api.Rule {
	sorted := slices.Clone(a.Rules)
	slices.SortFunc(sorted, rule.Compare)
	sorted = slices.CompactFunc(sorted, func(x, y api.Rule) bool { return rule.Compare(x, y) == 0 })
	var kept []api.Rule
	for _, r := range sorted {
		if !used[r.To] || !allOf(used, r.From) {
			continue
		}
		from := make([]int, len(r.From))
		for i, state := range r.From {
			from[i] = number[state]
		}
		kept = append(kept, api.Rule{Sym: r.Sym, From: from, To: number[r.To]})
	}
	return kept
}
