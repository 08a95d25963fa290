package count

import (
	"boskage/api"
	"boskage/mini"
)

// list is a list of states: first, and then those of another list.
type list struct {
	first, rest int
}

// none is the number of the list without states.
const none = 0

// table contains numbers of trees for a minimal automaton. As it is
// deterministic, each tree has one state at most, and is counted once.
type table struct {
	al api.Alphabet
	a  api.Automaton
	// rules contains for each symbol and each state To the lists From.
	rules   [][][]int
	lists   []list
	numbers map[list]int
	// trees[s][n] is the number of trees with n nodes and the state s, and
	// forests[l][n] the number of lists of trees with n nodes together and the
	// states of the list l. Both are known up to size.
	trees, forests [][]number
	size           int
}

// newTable returns a table for the language of a, which is known up to size 0.
func newTable(al api.Alphabet, a api.Automaton) (*table, api.Errno) {
	minimal, e := mini.Minimal(al, a)
	if e != api.OK {
		return nil, e
	}
	t := &table{al: al, a: minimal, lists: make([]list, 1), numbers: map[list]int{}}
	for range al.Ranks {
		t.rules = append(t.rules, make([][]int, minimal.States))
	}
	for _, r := range minimal.Rules {
		t.rules[r.Sym][r.To] = append(t.rules[r.Sym][r.To], t.numberOf(r.From))
	}
	for range minimal.States {
		t.trees = append(t.trees, make([]number, 1))
	}
	for range t.lists {
		t.forests = append(t.forests, make([]number, 1))
	}
	t.forests[none][0] = 1
	return t, api.OK
}

// numberOf returns the number of a list of states, which is greater than that
// of the list of all states but the first one.
func (t *table) numberOf(states []int) int {
	if len(states) == 0 {
		return none
	}
	l := list{states[0], t.numberOf(states[1:])}
	number, known := t.numbers[l]
	if !known {
		number = len(t.lists)
		t.numbers[l] = number
		t.lists = append(t.lists, l)
	}
	return number
}

// grow makes the table known up to a size.
func (t *table) grow(size int) {
	for t.size < size {
		t.size++
		for state := range t.trees {
			t.trees[state] = append(t.trees[state], t.countTrees(state))
		}
		for l := range t.lists {
			t.forests[l] = append(t.forests[l], t.countForests(l))
		}
	}
}

// countTrees returns the number of trees with a state for the size of the table.
func (t *table) countTrees(state int) number {
	var sum number
	for sym := range t.rules {
		for _, l := range t.rules[sym][state] {
			sum = sum.plus(t.forests[l][t.size-1])
		}
	}
	return sum
}

// countForests returns the number of lists of trees with the states of the list
// l for the size of the table.
func (t *table) countForests(l int) number {
	if l == none {
		return 0
	}
	trees, rest := t.trees[t.lists[l].first], t.forests[t.lists[l].rest]
	var sum number
	for first := 1; first <= t.size && sum < many; first++ {
		if trees[first] > 0 {
			sum = sum.plus(trees[first].times(rest[t.size-first]))
		}
	}
	return sum
}

// accepted returns the number of accepted trees with n nodes.
func (t *table) accepted(n int) number {
	t.grow(n)
	var numbers []number
	for _, state := range t.a.Final {
		numbers = append(numbers, t.trees[state][n])
	}
	return fold(number.plus, 0, numbers)
}

// upto returns the number of accepted trees with at most n nodes.
func (t *table) upto(n int) number {
	var numbers []number
	for size := range n {
		numbers = append(numbers, t.accepted(size+1))
	}
	return fold(number.plus, 0, numbers)
}

// total returns the number of all accepted trees, which are finitely many.
//
// In each round, trees with one more level are counted. None of the states is
// below itself, so there are as many levels as states at most.
func (t *table) total() number {
	trees := make([]number, t.a.States)
	for range t.a.States {
		next := make([]number, t.a.States)
		for _, r := range t.a.Rules {
			next[r.To] = next[r.To].plus(fold(number.times, 1, numbersOf(trees, r.From)))
		}
		trees = next
	}
	return fold(number.plus, 0, numbersOf(trees, t.a.Final))
}

// numbersOf returns the numbers for a list of states.
func numbersOf(trees []number, states []int) []number {
	var numbers []number
	for _, state := range states {
		numbers = append(numbers, trees[state])
	}
	return numbers
}
