package pre

import (
	"boskage/api"
	"boskage/auto"
	"boskage/bitset"
	"boskage/boolean"
	"boskage/rule"
	"boskage/topdown"
	"boskage/trans"
	"boskage/work"
)

// item is what a state of the automaton of an image stands for: the outputs of a
// state of the transducer for the trees to whose roots runs assign an input state
// or, if call is false, the trees with a head.
type item struct {
	call         bool
	state, input int
	head         rule.Head
}

// edge is a rule.
type edge struct {
	head rule.Head
	to   int
}

// imageBuilder builds the automaton of an image. Its states are the numbers of items.
type imageBuilder struct {
	tr api.Transducer
	// to contains the rules of the input automaton by their states To.
	to    [][]api.Rule
	items work.Numbering[item]
	edges work.Numbering[edge]
	// copies contains pairs of items: all trees of the first one belong to the
	// second one as well.
	copies work.Numbering[[2]int]
	// number returns the number of the item for a right-hand side, where from
	// contains the input states of the subtrees.
	number func(x api.Out, from []int) int
}

// Image returns an automaton that accepts the outputs of the trees that a accepts.
//
// All states of the input automaton are useful, so that there is a tree for each
// subtree that is not called. As tr is linear, subtrees that are called can be
// chosen independently of each other.
func Image(tr api.Transducer, a api.Automaton) (api.Automaton, api.Errno) {
	if !trans.Valid(tr) || !auto.Valid(tr.In, a) {
		return api.Automaton{}, api.ErrArg
	}
	linear, e := trans.Linear(tr)
	if e != api.OK {
		return api.Automaton{}, e
	}
	if !linear {
		return api.Automaton{}, api.ErrKind
	}
	input, e := inputs(tr, a)
	if e != api.OK {
		return api.Automaton{}, e
	}
	p := newImageBuilder(tr, input)
	var final []int
	for _, state := range input.Final {
		final = append(final, p.number(tr.Axiom, []int{state}))
	}
	if !p.grow() {
		return api.Automaton{}, api.ErrFull
	}
	return p.automaton(final)
}

// inputs returns a trimmed automaton that accepts the trees that a and Domain
// accept.
func inputs(tr api.Transducer, a api.Automaton) (api.Automaton, api.Errno) {
	domain, e := topdown.Auto(tr.In, tr.Domain)
	if e != api.OK {
		return api.Automaton{}, e
	}
	both, e := boolean.Meet(tr.In, a, domain)
	if e != api.OK {
		return api.Automaton{}, e
	}
	return auto.Trim(tr.In, both)
}

func newImageBuilder(tr api.Transducer, input api.Automaton) *imageBuilder {
	p := &imageBuilder{tr: tr, to: make([][]api.Rule, input.States)}
	for _, r := range input.Rules {
		p.to[r.To] = append(p.to[r.To], r)
	}
	p.number = func(x api.Out, from []int) int {
		if x.Call {
			return p.items.Of(item{call: true, state: x.State, input: from[x.Kid]})
		}
		head := p.head(x, from)
		number := p.items.Of(item{head: head})
		p.edges.Of(edge{head, number})
		return number
	}
	return p
}

// head returns the head of the root of a right-hand side that is not a call.
func (p *imageBuilder) head(x api.Out, from []int) rule.Head {
	var kids []int
	for _, kid := range x.Kids {
		kids = append(kids, p.number(kid, from))
	}
	return rule.HeadOf(x.Sym, kids)
}

// grow finds the items that are needed for those that are known, and the rules
// and copies for them. It returns false if a limit is exceeded.
func (p *imageBuilder) grow() bool {
	for number, x := range p.items.All() {
		if x.call {
			p.addRules(number, x)
		}
		if p.items.Len() > api.MaxStates || p.edges.Len() > api.MaxRules {
			return false
		}
	}
	return true
}

// addRules adds the rules and copies for an item that stands for outputs.
func (p *imageBuilder) addRules(number int, x item) {
	for _, r := range p.to[x.input] {
		for _, y := range p.tr.Rules[x.state][r.Sym] {
			if y.Call {
				p.copies.Of([2]int{p.number(y, r.From), number})
			} else {
				p.edges.Of(edge{p.head(y, r.From), number})
			}
		}
	}
}

// automaton returns the automaton in which each rule leads to a state and to all
// those to which its trees are copied.
func (p *imageBuilder) automaton(final []int) (api.Automaton, api.Errno) {
	above := p.copiedTo()
	var all work.Numbering[edge]
	for _, x := range p.edges.All() {
		for _, to := range above[x.to].List() {
			all.Of(edge{x.head, to})
		}
		if all.Len() > api.MaxRules {
			return api.Automaton{}, api.ErrFull
		}
	}
	set := bitset.Of(final...)
	image := api.Automaton{States: p.items.Len(), Final: set.List()}
	for _, x := range all.All() {
		from := x.head.From[:p.tr.Out.Ranks[x.head.Sym]]
		image.Rules = append(image.Rules, api.Rule{Sym: x.head.Sym, From: from, To: x.to})
	}
	return auto.Trim(p.tr.Out, image)
}

// copiedTo returns for each item those to which its trees are copied, also over
// other items, and the item itself.
func (p *imageBuilder) copiedTo() []bitset.Set {
	above := make([]bitset.Set, p.items.Len())
	for number := range above {
		above[number].Add(number)
	}
	for _, pair := range p.copies.All() {
		above[pair[0]].Add(pair[1])
	}
	for middle := range above {
		for number := range above {
			if above[number].Has(middle) {
				above[number].Unite(&above[middle])
			}
		}
	}
	return above
}
