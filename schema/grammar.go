package schema

import (
	"boskage/api"
	"boskage/bitset"
	"boskage/regex"
	"boskage/work"
	"slices"
)

// place is where one can be in a content: at a node with the Op Letter, which
// stands for a child of a type, or before the first one. The start types are a
// content as well, after those of all types: the root is its only child.
type place struct {
	content, node, typ int
}

// beginning is the node of the place before the first one. The place has no
// type.
const beginning = -1

// grammar contains the places of a schema by their numbers. There are fewer
// than MaxStates.
type grammar struct {
	types  []api.Type
	places work.Numbering[place]
	// begins contains the beginning of each content.
	begins []int
	// after contains for each place those that can come next.
	after [api.MaxStates]bitset.Set
	// ends are the places after which nothing has to come.
	ends bitset.Set
}

// newGrammar returns the grammar of a valid schema.
func newGrammar(s api.Schema) *grammar {
	g := &grammar{types: s.Types}
	for _, t := range s.Types {
		g.add(t.Content)
	}
	root := api.Expr{Op: api.Nothing}
	for _, start := range s.Start {
		letter := api.Expr{Op: api.Letter, Letter: start}
		root = api.Expr{Op: api.Either, Args: []api.Expr{root, letter}}
	}
	g.add(root)
	return g
}

// add adds the places of the next content.
func (g *grammar) add(e api.Expr) {
	content := len(g.begins)
	begin := g.places.Of(place{content: content, node: beginning})
	g.begins = append(g.begins, begin)
	letters := lettersOf(e)
	at := func(node int) int {
		return g.places.Of(place{content, node, letters[node]})
	}
	// As the schema is valid, there are no errors.
	nullable, _ := regex.Nullable(len(g.types), e)
	first, last, follow, _ := regex.Positions(len(g.types), e)
	if nullable {
		g.ends.Add(begin)
	}
	for _, node := range first {
		g.after[begin].Add(at(node))
	}
	for _, node := range last {
		g.ends.Add(at(node))
	}
	for _, pair := range follow {
		g.after[at(pair[0])].Add(at(pair[1]))
	}
}

// start returns the place before the root.
func (g *grammar) start() int {
	return g.begins[len(g.types)]
}

// typeAt returns the type for which a place stands that is no beginning.
func (g *grammar) typeAt(number int) int {
	return g.places.Key(number).typ
}

// reading describes how a node can be read: the places for it from which the
// siblings that come after it can be read, and its children.
type reading struct {
	places bitset.Set
	kids   []reading
}

// read describes how the trees of a hedge can be read. It also returns the
// places after which the hedge can be all that comes.
func (g *grammar) read(h []api.Node) ([]reading, bitset.Set) {
	var read func(h []api.Node) ([]reading, bitset.Set)
	read = func(h []api.Node) ([]reading, bitset.Set) {
		readings, rest := make([]reading, len(h)), g.ends
		for i, x := range slices.Backward(h) {
			kids, inside := read(x.Kids)
			here := g.placesFor(x.Label, inside, rest)
			readings[i] = reading{here, kids}
			rest = g.before(here)
		}
		return readings, rest
	}
	return read(h)
}

// placesFor returns those places of rest that stand for nodes with a label,
// where inside are the places after which the children of the node can come.
func (g *grammar) placesFor(label int, inside, rest bitset.Set) bitset.Set {
	var places bitset.Set
	for _, number := range rest.List() {
		at := g.places.Key(number)
		if at.node != beginning && g.types[at.typ].Label == label && inside.Has(g.begins[at.typ]) {
			places.Add(number)
		}
	}
	return places
}

// before returns the places after which one of the given places can come.
func (g *grammar) before(next bitset.Set) bitset.Set {
	var before bitset.Set
	for number := range g.places.All() {
		if g.after[number].Meets(&next) {
			before.Add(number)
		}
	}
	return before
}

// assign returns the types of the nodes, in document order, of a tree that can
// be read, where readings describe it as a hedge.
func (g *grammar) assign(readings []reading) []int {
	var types []int
	var visit func(at int, readings []reading)
	visit = func(at int, readings []reading) {
		for _, r := range readings {
			at = g.step(at, r.places)
			typ := g.typeAt(at)
			types = append(types, typ)
			visit(g.begins[typ], r.kids)
		}
	}
	visit(g.start(), readings)
	return types
}

// step returns the first of the given places that can come after a place.
func (g *grammar) step(at int, places bitset.Set) int {
	list := g.after[at].List()
	return list[slices.IndexFunc(list, places.Has)]
}
