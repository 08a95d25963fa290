package empty_test

import (
	"boskage/api"
	"boskage/sample"
	"boskage/tree"
	"slices"
	"testing"
)

// example is the automaton of the chapter's example (that of layer 3), over a
// (rank 0) and f (rank 2).
var exampleAlphabet = api.Alphabet{Ranks: []int{0, 2}}

func example() api.Automaton {
	return api.Automaton{States: 2, Final: []int{1}, Rules: []api.Rule{
		sample.Rule(0, 0), sample.Rule(1, 1, 0, 0), sample.Rule(1, 0, 1, 1),
	}}
}

// all has each rank.
var all = api.Alphabet{Ranks: []int{0, 1, 2, 3}}

// reversed exchanges the states of a, and the order of its rules.
func reversed(a api.Automaton) api.Automaton {
	b := api.Automaton{States: a.States}
	for _, state := range slices.Backward(a.Final) {
		b.Final = append(b.Final, a.States-1-state)
	}
	for _, r := range slices.Backward(a.Rules) {
		other := sample.Rule(r.Sym, a.States-1-r.To)
		for _, state := range r.From {
			other.From = append(other.From, a.States-1-state)
		}
		b.Rules = append(b.Rules, other)
	}
	return b
}

// forAll calls f with alphabets and automata over them, many of which have a
// finite language.
func forAll(f func(al api.Alphabet, a api.Automaton)) {
	var s sample.Source
	for _, al := range sample.Alphabets() {
		for _, a := range append(sample.Automata(al), api.Automaton{}, api.Automaton{States: 3, Final: []int{0, 1, 2}}) {
			f(al, a)
			f(al, sample.Acyclic(&s, al, a.States, len(a.Rules)))
		}
	}
}

// profile contains, for each number up to a limit, the states that runs assign
// to the roots of trees with this size and of trees with this depth.
type profile struct {
	sizes, depths [][]bool
}

// profileOf computes the states of all trees up to a size and up to a depth.
func profileOf(a api.Automaton, size, depth int) profile {
	p := profile{sizes: make([][]bool, size+1), depths: make([][]bool, depth+1)}
	for n := range p.sizes {
		p.sizes[n] = make([]bool, a.States)
		for _, r := range a.Rules {
			p.sizes[n][r.To] = p.sizes[n][r.To] || p.fits(r.From, n-1)
		}
	}
	for n := range p.depths {
		p.depths[n] = make([]bool, a.States)
		for _, r := range a.Rules {
			p.depths[n][r.To] = p.depths[n][r.To] || p.deep(r.From, n-1)
		}
	}
	return p
}

// fits reports whether trees for the states have n nodes together.
func (p profile) fits(states []int, n int) bool {
	if len(states) == 0 {
		return n == 0
	}
	for first := 1; first <= n; first++ {
		if p.sizes[first][states[0]] && p.fits(states[1:], n-first) {
			return true
		}
	}
	return false
}

// deep reports whether trees for the states have the maximum depth n.
func (p profile) deep(states []int, n int) bool {
	if len(states) == 0 {
		return n == 0
	}
	deepest := false
	for _, state := range states {
		shallow := false
		for depth := 1; depth <= n; depth++ {
			shallow = shallow || p.depths[depth][state]
		}
		if !shallow {
			return false
		}
		deepest = deepest || p.depths[n][state]
	}
	return deepest
}

// accepted returns the numbers at which there are final states.
func accepted(a api.Automaton, levels [][]bool) []int {
	var list []int
	for n, states := range levels {
		if slices.ContainsFunc(a.Final, func(state int) bool { return states[state] }) {
			list = append(list, n)
		}
	}
	return list
}

// leastBySize computes the least trees of states for each size: leasts[n][state]
// has n nodes, or is nil if there is no such tree.
func leastBySize(a api.Automaton, limit int) [][]*api.Tree {
	leasts := make([][]*api.Tree, limit+1)
	for n := range leasts {
		leasts[n] = make([]*api.Tree, a.States)
		for _, r := range a.Rules {
			for kids := range leastLists(leasts, r.From, n-1) {
				x := api.Tree{Sym: r.Sym, Kids: kids}
				if old := leasts[n][r.To]; old == nil || tree.Compare(x, *old) < 0 {
					leasts[n][r.To] = &x
				}
			}
		}
	}
	return leasts
}

// leastLists yields the lists of least trees for states with n nodes together.
func leastLists(leasts [][]*api.Tree, states []int, n int) func(yield func([]api.Tree) bool) {
	return func(yield func([]api.Tree) bool) {
		if len(states) == 0 {
			if n == 0 {
				yield(nil)
			}
			return
		}
		for first := 1; first <= n; first++ {
			x := leasts[first][states[0]]
			if x == nil {
				continue
			}
			for rest := range leastLists(leasts, states[1:], n-first) {
				if !yield(append([]api.Tree{*x}, rest...)) {
					return
				}
			}
		}
	}
}

// checkTree checks a tree and its error.
func checkTree(t *testing.T, what string, got api.Tree, e api.Errno, want api.Tree) {
	t.Helper()
	if e != api.OK || tree.Compare(got, want) != 0 || tree.Size(got) != tree.Size(want) {
		t.Errorf("%s: got %v, error %d, want %v", what, got, e, want)
	}
}

// checkNoTree checks a tree that comes with an error.
func checkNoTree(t *testing.T, what string, got api.Tree, e, want api.Errno) {
	t.Helper()
	if e != want || got.Sym != 0 || len(got.Kids) > 0 {
		t.Errorf("%s: got %v, error %d, want error %d", what, got, e, want)
	}
}

// checkNumber checks a number and its error.
func checkNumber(t *testing.T, what string, got int, e api.Errno, want int, wantError api.Errno) {
	t.Helper()
	if got != want || e != wantError {
		t.Errorf("%s: got %d, error %d, want %d, error %d", what, got, e, want, wantError)
	}
}
