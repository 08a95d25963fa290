package incl

import (
	"boskage/api"
	"boskage/auto"
	"slices"
)

// doubler builds an automaton from another one with the given number of states,
// so that each run of it stands for two runs of the other one on the same tree.
// It assigns a state of the other one to the nodes of subtrees on which the two
// runs are the same, and the number of a pair of states to all other nodes.
type doubler struct {
	states int
	rules  []api.Rule
}

// ambiguous returns an automaton that accepts the trees on which several runs
// of a assign final states to the root.
func ambiguous(al api.Alphabet, a api.Automaton) (api.Automaton, api.Errno) {
	trimmed, e := auto.Trim(al, a)
	if e != api.OK {
		return api.Automaton{}, e
	}
	// A deterministic automaton has one run on a tree, however large it is.
	deterministic, e := auto.Deterministic(al, trimmed)
	if e != api.OK || deterministic {
		return api.Automaton{}, e
	}
	d := doubler{states: trimmed.States}
	if d.number() > api.MaxStates || !d.addAll(trimmed.Rules) {
		return api.Automaton{}, api.ErrFull
	}
	return api.Automaton{States: d.number(), Final: d.pairsOf(trimmed.Final), Rules: d.rules}, api.OK
}

// number returns the number of states and pairs of states.
func (d *doubler) number() int {
	return d.states + d.states*d.states
}

// pair returns the number of the pair of p and q.
func (d *doubler) pair(p, q int) int {
	return d.states + p*d.states + q
}

// pairsOf returns all pairs of the states in increasing order.
func (d *doubler) pairsOf(states []int) []int {
	var pairs []int
	for _, p := range states {
		for _, q := range states {
			pairs = append(pairs, d.pair(p, q))
		}
	}
	return pairs
}

// addAll adds the rules for all pairs of rules. It returns false if a limit is
// exceeded.
func (d *doubler) addAll(rules []api.Rule) bool {
	for _, l := range rules {
		for _, r := range rules {
			if l.Sym != r.Sym {
				continue
			}
			d.add(l, r)
			if len(d.rules) > api.MaxRules {
				return false
			}
		}
	}
	return true
}

// add adds the rules for nodes at which the one run has the rule l, and the
// other one r.
func (d *doubler) add(l, r api.Rule) {
	for _, from := range d.lists(l.From, r.From) {
		to := d.pair(l.To, r.To)
		if l.To == r.To && slices.Equal(from, l.From) {
			to = l.To
		}
		d.rules = append(d.rules, api.Rule{Sym: l.Sym, From: from, To: to})
	}
}

// lists returns what two runs that assign the states left and right to subtrees
// may stand for: where the states are equal, the runs may be the same or not.
func (d *doubler) lists(left, right []int) [][]int {
	lists := [][]int{nil}
	for i, p := range left {
		choices := []int{d.pair(p, right[i])}
		if p == right[i] {
			choices = append(choices, p)
		}
		var longer [][]int
		for _, list := range lists {
			for _, choice := range choices {
				longer = append(longer, append(slices.Clone(list), choice))
			}
		}
		lists = longer
	}
	return lists
}
