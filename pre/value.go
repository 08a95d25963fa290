package pre

import (
	"boskage/api"
	"boskage/auto"
	"boskage/bitset"
	"boskage/rule"
	"boskage/trans"
	"slices"
)

// node is a node of an output: its symbol, with the sets of states that runs
// assign to its subtrees.
type node struct {
	sym  int
	kids [api.MaxRank]bitset.Set
}

// evaluator computes which states runs of an automaton assign to outputs.
type evaluator struct {
	tr     api.Transducer
	called []int
	rules  *rule.Table
	known  map[node]bitset.Set
}

// Value returns the states that runs of b assign to the root of the output of tr
// for t.
func Value(tr api.Transducer, b api.Automaton, t api.Tree) ([]int, api.Errno) {
	if !trans.Valid(tr) || !auto.Valid(tr.Out, b) {
		return nil, api.ErrArg
	}
	// The output may be too large to have a size, and still be defined.
	if _, e := trans.Size(tr, t); e != api.OK && e != api.ErrFull {
		return nil, e
	}
	states := called(tr)
	v := &evaluator{tr: tr, called: states.List(), rules: rule.NewTable(tr.Out, b), known: map[node]bitset.Set{}}
	root := v.statesOf(tr.Axiom, [][]bitset.Set{v.below(t)})
	return root.List(), api.OK
}

// Outputs reports whether b accepts the output of tr for t.
func Outputs(tr api.Transducer, b api.Automaton, t api.Tree) (bool, api.Errno) {
	states, e := Value(tr, b, t)
	if e != api.OK {
		return false, e
	}
	return slices.ContainsFunc(b.Final, func(state int) bool { return slices.Contains(states, state) }), api.OK
}

// below returns for each state of the transducer the states of its output for t.
// A state that has no output gets an arbitrary set: the output of the transducer
// is defined, and does not depend on it.
func (v *evaluator) below(t api.Tree) []bitset.Set {
	var kids [][]bitset.Set
	for _, kid := range t.Kids {
		kids = append(kids, v.below(kid))
	}
	sets := make([]bitset.Set, v.tr.States)
	for _, state := range v.called {
		for _, x := range v.tr.Rules[state][t.Sym] {
			sets[state] = v.statesOf(x, kids)
		}
	}
	return sets
}

// statesOf returns the states of what a right-hand side stands for.
func (v *evaluator) statesOf(x api.Out, below [][]bitset.Set) bitset.Set {
	if x.Call {
		return below[x.Kid][x.State]
	}
	n := node{sym: x.Sym}
	for i, kid := range x.Kids {
		n.kids[i] = v.statesOf(kid, below)
	}
	states, known := v.known[n]
	if !known {
		states = v.targets(&n)
		v.known[n] = states
	}
	return states
}

// targets returns the states To of the rules for a node.
func (v *evaluator) targets(n *node) bitset.Set {
	var states bitset.Set
	rank := v.tr.Out.Ranks[n.sym]
groups:
	for _, group := range v.rules.Groups(n.sym) {
		for i, state := range group.Head.From[:rank] {
			if !n.kids[i].Has(state) {
				continue groups
			}
		}
		states.Unite(&group.To)
	}
	return states
}
