package schema

import (
	"boskage/api"
	"boskage/auto"
	"boskage/bitset"
	"boskage/empty"
	"boskage/hedge"
	"boskage/incl"
	"boskage/work"
	"iter"
)

// future is what can come after a place, and whether nothing has to come. As
// this is all that counts for the automaton, places with the same future are one
// state: it is assigned to the encodings of the hedges that can be all that comes
// after them.
type future struct {
	after bitset.Set
	end   bool
}

// translation is a grammar with the states of its automaton.
type translation struct {
	*grammar
	labels int
	states work.Numbering[future]
}

func newTranslation(s api.Schema) *translation {
	return &translation{grammar: newGrammar(s), labels: s.Labels}
}

// state returns the state of a place.
func (t *translation) state(number int) int {
	return t.states.Of(future{t.after[number], t.ends.Has(number)})
}

// steps yields the places with those that can come next.
func (t *translation) steps() iter.Seq2[int, int] {
	return func(yield func(int, int) bool) {
		for number := range t.places.All() {
			for _, next := range t.after[number].List() {
				if !yield(number, next) {
					return
				}
			}
		}
	}
}

// rule returns the rule for a hedge that comes after a place and whose first
// tree has its root at the place next.
func (t *translation) rule(number, next int) api.Rule {
	typ := t.typeAt(next)
	children, siblings := t.state(t.begins[typ]), t.state(next)
	return api.Rule{Sym: t.types[typ].Label, From: []int{children, siblings}, To: t.state(number)}
}

// automaton returns an automaton for the encodings of the trees of the schema.
func (t *translation) automaton() api.Automaton {
	var a api.Automaton
	for _, number := range t.ends.List() {
		a.Rules = append(a.Rules, api.Rule{Sym: t.labels, To: t.state(number)})
	}
	for number, next := range t.steps() {
		a.Rules = append(a.Rules, t.rule(number, next))
	}
	a.Final = []int{t.state(t.start())}
	a.States = t.states.Len()
	return a
}

// Automaton returns an automaton that accepts the encodings of the unranked
// trees that are valid with respect to s.
func Automaton(s api.Schema) (api.Automaton, api.Errno) {
	if !Valid(s) {
		return api.Automaton{}, api.ErrArg
	}
	al, _ := hedge.Binary(s.Labels)
	return auto.Trim(al, newTranslation(s).automaton())
}

// Useful reports for each type of s whether it occurs in an assignment.
func Useful(s api.Schema) ([]bool, api.Errno) {
	if !Valid(s) {
		return nil, api.ErrArg
	}
	t := newTranslation(s)
	al, _ := hedge.Binary(s.Labels)
	useful, e := auto.Useful(al, t.automaton())
	if e != api.OK {
		return nil, e
	}
	occurs := make([]bool, len(s.Types))
	for number, next := range t.steps() {
		r := t.rule(number, next)
		if useful[r.To] && useful[r.From[0]] && useful[r.From[1]] {
			occurs[t.typeAt(next)] = true
		}
	}
	return occurs, api.OK
}

// Smallest returns the least tree that is valid with respect to s.
func Smallest(s api.Schema) (api.Node, api.Errno) {
	a, e := Automaton(s)
	if e != api.OK {
		return api.Node{}, e
	}
	al, _ := hedge.Binary(s.Labels)
	x, e := empty.Least(al, a)
	if e != api.OK {
		return api.Node{}, e
	}
	return decode(s.Labels, x)
}

// Included decides whether every tree that is valid with respect to s is valid
// with respect to t.
func Included(s, t api.Schema) (bool, api.Node, api.Errno) {
	if !Valid(s) || !Valid(t) {
		return false, api.Node{}, api.ErrArg
	}
	if s.Labels != t.Labels {
		return false, api.Node{}, api.ErrDim
	}
	a, _ := Automaton(s)
	b, _ := Automaton(t)
	al, _ := hedge.Binary(s.Labels)
	holds, x, e := incl.Included(al, a, b)
	if holds || e != api.OK {
		return holds, api.Node{}, e
	}
	node, e := decode(s.Labels, x)
	return false, node, e
}

// decode returns the tree whose encoding is x.
func decode(labels int, x api.Tree) (api.Node, api.Errno) {
	h, e := hedge.Decode(labels, x)
	if e != api.OK {
		return api.Node{}, e
	}
	return h[0], api.OK
}
