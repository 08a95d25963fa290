package query

import (
	"boskage/api"
	"boskage/auto"
	"boskage/hedge"
	"boskage/path"
	"boskage/work"
)

// The parts of the set of all hedges that an automaton tells apart.
const (
	noTree   = iota // the hedge without trees
	accepted        // a hedge of one tree, in which the path selects some node
	rejected        // another hedge
)

// class is what an automaton knows of a hedge.
type class struct {
	part   int
	truths truths
}

// builder builds the automaton of a path. Its states are the numbers of classes.
type builder struct {
	*machine
	labels  int
	classes work.Numbering[class]
	rules   []api.Rule
}

// Automaton returns a deterministic automaton that accepts the encodings of the
// unranked trees in which p selects some node.
func Automaton(n int, p path.Path) (api.Automaton, api.Errno) {
	if !path.Valid(n, p) {
		return api.Automaton{}, api.ErrArg
	}
	b := &builder{machine: newMachine(0, []path.Path{p}), labels: n}
	if !b.grow() {
		return api.Automaton{}, api.ErrFull
	}
	al, _ := hedge.Binary(n)
	return auto.Trim(al, b.automaton())
}

// grow adds all classes, and the rules between them. It returns false if a limit
// is exceeded.
func (b *builder) grow() bool {
	b.rules = append(b.rules, api.Rule{Sym: b.labels, To: b.classes.Of(class{part: noTree})})
	for number := range b.classes.All() {
		for earlier := range number {
			b.addRules(earlier, number)
			b.addRules(number, earlier)
		}
		b.addRules(number, number)
		if b.classes.Len() > api.MaxStates || len(b.rules) > api.MaxRules {
			return false
		}
	}
	return true
}

// addRules adds the rules for a tree with children of one class, followed by
// siblings of another one.
func (b *builder) addRules(children, siblings int) {
	for label := range b.labels {
		to := b.classes.Of(b.above(label, b.classes.Key(children), b.classes.Key(siblings)))
		b.rules = append(b.rules, api.Rule{Sym: label, From: []int{children, siblings}, To: to})
	}
}

// above returns the class of a hedge whose first tree has a label and children,
// and is followed by siblings.
func (b *builder) above(label int, children, siblings class) class {
	t := b.join(label, 0, children.truths, siblings.truths)
	if siblings.part == noTree && b.selects(t)[0] {
		return class{accepted, t}
	}
	return class{rejected, t}
}

// automaton returns the automaton of all classes.
func (b *builder) automaton() api.Automaton {
	a := api.Automaton{States: b.classes.Len(), Rules: b.rules}
	for number, c := range b.classes.All() {
		if c.part == accepted {
			a.Final = append(a.Final, number)
		}
	}
	return a
}
