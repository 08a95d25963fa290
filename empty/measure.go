package empty

import "boskage/api"

// operation takes two numbers from 0 to MaxCount to another one.
type operation func(x, y int) int

// add returns x + y, or MaxCount if that is greater.
func add(x, y int) int {
	if x > api.MaxCount-y {
		return api.MaxCount
	}
	return x + y
}

func lower(x, y int) int {
	return min(x, y)
}

func higher(x, y int) int {
	return max(x, y)
}

// measure returns a number for each state of a: of the measures of the trees to
// whose root runs assign the state, the one that choose prefers, or 0 if there
// are no such trees. The measure of a tree is 1 more than what combine makes of
// those of its subtrees.
//
// Each round considers trees with one more level. As many rounds as states
// suffice if trees in which some state is below itself can be neglected: choose
// prefers smaller trees (lower), or there are no such trees (higher).
func measure(a api.Automaton, combine, choose operation) []int {
	values := make([]int, a.States)
	for range a.States {
		changed := false
		for _, r := range a.Rules {
			value := valueOf(r, values, combine)
			if known := values[r.To]; known > 0 && value > 0 {
				value = choose(known, value)
			}
			if value > 0 && value != values[r.To] {
				values[r.To] = value
				changed = true
			}
		}
		if !changed {
			break
		}
	}
	return values
}

// valueOf returns the measure of a tree with the rule r at its root, or 0 if
// some subtree has none yet.
func valueOf(r api.Rule, values []int, combine operation) int {
	value := 0
	for _, state := range r.From {
		if values[state] == 0 {
			return 0
		}
		value = combine(value, values[state])
	}
	return add(value, 1)
}

// best returns what choose prefers among the values of some states.
func best(values, states []int, choose operation) int {
	value := values[states[0]]
	for _, state := range states {
		value = choose(value, values[state])
	}
	return value
}
