package auto

import (
	"boskage/api"
	"boskage/bitset"
	"boskage/rule"
	"boskage/tree"
	"slices"
)

// node is a node of a tree with the states that runs assign to it.
type node struct {
	sym    int
	states bitset.Set
	kids   []node
}

// States returns the states that runs of a assign to the root of t.
func States(al api.Alphabet, a api.Automaton, t api.Tree) ([]int, api.Errno) {
	if !Valid(al, a) || !tree.Valid(al, t) {
		return nil, api.ErrArg
	}
	root := annotate(rule.NewTable(al, a), t)
	return root.states.List(), api.OK
}

// Accepts reports whether a accepts t.
func Accepts(al api.Alphabet, a api.Automaton, t api.Tree) (bool, api.Errno) {
	if !Valid(al, a) || !tree.Valid(al, t) {
		return false, api.ErrArg
	}
	root := annotate(rule.NewTable(al, a), t)
	return acceptedIn(a, root) >= 0, api.OK
}

// acceptedIn returns the least final state that runs assign to the root, or -1.
func acceptedIn(a api.Automaton, root node) int {
	for _, state := range a.Final {
		if root.states.Has(state) {
			return state
		}
	}
	return -1
}

// annotate computes the states of all nodes of t.
func annotate(rules *rule.Table, t api.Tree) node {
	x := node{sym: t.Sym}
	for _, kid := range t.Kids {
		x.kids = append(x.kids, annotate(rules, kid))
	}
	for _, group := range rules.Groups(t.Sym) {
		if x.admits(group) {
			x.states.Unite(&group.To)
		}
	}
	return x
}

// admits reports whether runs assign the states of the head to the subtrees
// of x.
func (x *node) admits(group *rule.Group) bool {
	for i := range x.kids {
		if !x.kids[i].states.Has(group.Head.From[i]) {
			return false
		}
	}
	return true
}

// Run returns a run of a on t that assigns a final state to the root.
func Run(al api.Alphabet, a api.Automaton, t api.Tree) ([]int, api.Errno) {
	if !Valid(al, a) || !tree.Valid(al, t) {
		return nil, api.ErrArg
	}
	rules := rule.NewTable(al, a)
	root := annotate(rules, t)
	state := acceptedIn(a, root)
	if state < 0 {
		return nil, api.ErrInput
	}
	return root.appendRun(nil, rules, state), api.OK
}

// appendRun appends a run on the tree of x that assigns state, which is one of
// its states, to x.
func (x *node) appendRun(run []int, rules *rule.Table, state int) []int {
	run = append(run, state)
	for _, group := range rules.Groups(x.sym) {
		if group.To.Has(state) && x.admits(group) {
			for i := range x.kids {
				run = x.kids[i].appendRun(run, rules, group.Head.From[i])
			}
			break
		}
	}
	return run
}

// Check reports whether run is a run of a on t that assigns a final state to
// the root.
func Check(al api.Alphabet, a api.Automaton, t api.Tree, run []int) (bool, api.Errno) {
	if !Valid(al, a) || !tree.Valid(al, t) {
		return false, api.ErrArg
	}
	if len(run) != tree.Size(t) || !slices.Contains(a.Final, run[0]) {
		return false, api.OK
	}
	for _, state := range run {
		if !hasState(a, state) {
			return false, api.OK
		}
	}
	_, fits := follow(rule.NewTable(al, a), t, run)
	return fits, api.OK
}

// follow reports whether the beginning of run assigns states to the nodes of t
// as the rules permit, and returns what follows it.
func follow(rules *rule.Table, t api.Tree, run []int) ([]int, bool) {
	state := run[0]
	run = run[1:]
	from := make([]int, len(t.Kids))
	for i, kid := range t.Kids {
		from[i] = run[0]
		rest, fits := follow(rules, kid, run)
		if !fits {
			return nil, false
		}
		run = rest
	}
	targets := rules.Targets(rule.HeadOf(t.Sym, from))
	return run, targets.Has(state)
}
