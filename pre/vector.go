package pre

import (
	"boskage/api"
	"boskage/rule"
	"boskage/topdown"
	"boskage/work"
	"iter"
	"slices"
)

// undefined stands for the state at the root of an output that is not defined.
const undefined = -1

// vector is what counts of a tree: for each state of a transducer the state at
// the root of its output, and for each state of Domain 0 if the tree is accepted
// from it. Other elements are undefined. Each element takes two bytes, which hold
// a number that is greater by one.
type vector string

// vectorOf returns the vector with the given elements.
func vectorOf(elements []int) vector {
	bytes := make([]byte, 0, 2*len(elements))
	for _, element := range elements {
		bytes = append(bytes, byte((element+1)>>8), byte(element+1))
	}
	return vector(bytes)
}

// at returns an element of v.
func (v vector) at(i int) int {
	return int(v[2*i])<<8 + int(v[2*i+1]) - 1
}

// machine is a deterministic and complete automaton. To contains for each symbol
// the states To of its rules, at the places whose numbers have the states in From
// as their digits.
type machine struct {
	states int
	to     [][]int
}

// newMachine returns the machine of a deterministic and complete automaton.
func newMachine(al api.Alphabet, b api.Automaton) machine {
	m := machine{states: b.States, to: make([][]int, len(al.Ranks))}
	for sym, rank := range al.Ranks {
		places := 1
		for range rank {
			places *= b.States
		}
		m.to[sym] = make([]int, places)
	}
	for _, r := range b.Rules {
		place := 0
		for _, state := range r.From {
			place = place*b.States + state
		}
		m.to[r.Sym][place] = r.To
	}
	return m
}

// builder builds the automaton of the vectors that belong to trees.
type builder struct {
	machine
	tr      api.Transducer
	called  []int
	vectors work.Numbering[vector]
	rules   []api.Rule
}

// classify returns a deterministic and complete automaton that accepts a tree if
// the state at the root of its output (undefined if there is no output) is one of
// those that are wanted. B is deterministic and complete.
func classify(tr api.Transducer, b api.Automaton, wanted func(state int) bool) (api.Automaton, api.Errno) {
	domain, e := topdown.Minimal(tr.In, tr.Domain)
	if e != api.OK {
		return api.Automaton{}, e
	}
	tr.Domain = domain
	states := called(tr)
	x := &builder{machine: newMachine(tr.Out, b), tr: tr, called: states.List()}
	if !x.grow() {
		return api.Automaton{}, api.ErrFull
	}
	a := api.Automaton{States: x.vectors.Len(), Rules: x.rules}
	for number, v := range x.vectors.All() {
		if wanted(x.root(v)) {
			a.Final = append(a.Final, number)
		}
	}
	return a, api.OK
}

// grow finds all vectors, and the rules between them. It returns false if a limit
// is exceeded.
func (b *builder) grow() bool {
	ranks := b.tr.In.Ranks
	for sym, rank := range ranks {
		if rank == 0 {
			b.addRule(sym, nil)
		}
	}
	for last := range b.vectors.All() {
		if b.vectors.Len() > api.MaxStates || rule.FullNumber(b.tr.In, b.vectors.Len()) > api.MaxRules {
			return false
		}
		for sym, rank := range ranks {
			for from := range lists(rank, last) {
				b.addRule(sym, slices.Clone(from))
			}
		}
	}
	return true
}

// lists yields the lists of a length with elements from 0 to last, and with last
// among them, in lexicographic order. A list is only valid until the next one is
// yielded.
func lists(length, last int) iter.Seq[[]int] {
	return func(yield func([]int) bool) {
		list := make([]int, length)
		var extend func(at int, has bool) bool
		extend = func(at int, has bool) bool {
			if at == length {
				return !has || yield(list)
			}
			for element := range last + 1 {
				list[at] = element
				if !extend(at+1, has || element == last) {
					return false
				}
			}
			return true
		}
		extend(0, false)
	}
}

// addRule adds the rule for a symbol and a list of the numbers of vectors.
func (b *builder) addRule(sym int, from []int) {
	below := make([]vector, len(from))
	for i, number := range from {
		below[i] = b.vectors.Key(number)
	}
	to := b.vectors.Of(b.above(sym, below))
	b.rules = append(b.rules, api.Rule{Sym: sym, From: from, To: to})
}

// above returns the vector of a tree with a symbol, and with subtrees that have
// the given vectors.
func (b *builder) above(sym int, below []vector) vector {
	elements := slices.Repeat([]int{undefined}, b.tr.States+b.tr.Domain.States)
	for _, state := range b.called {
		for _, x := range b.tr.Rules[state][sym] {
			elements[state] = b.stateOf(x, below)
		}
	}
	for state, row := range b.tr.Domain.Next {
		if row[sym] != nil && b.accepted(row[sym], below) {
			elements[b.tr.States+state] = 0
		}
	}
	return vectorOf(elements)
}

// accepted reports whether the subtrees are accepted from states of Domain.
func (b *builder) accepted(states []int, below []vector) bool {
	for i, state := range states {
		if below[i].at(b.tr.States+state) == undefined {
			return false
		}
	}
	return true
}

// stateOf returns the state at the root of what a right-hand side stands for.
func (b *builder) stateOf(x api.Out, below []vector) int {
	if x.Call {
		return below[x.Kid].at(x.State)
	}
	place := 0
	for _, kid := range x.Kids {
		state := b.stateOf(kid, below)
		if state == undefined {
			return undefined
		}
		place = place*b.states + state
	}
	return b.to[x.Sym][place]
}

// root returns the state at the root of the output for a tree with a vector.
func (b *builder) root(v vector) int {
	if b.tr.Domain.States == 0 || !b.accepted([]int{b.tr.Domain.Start}, []vector{v}) {
		return undefined
	}
	return b.stateOf(b.tr.Axiom, []vector{v})
}
