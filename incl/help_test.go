package incl_test

import (
	"boskage/api"
	"boskage/sample"
	"boskage/tree"
	"slices"
	"strconv"
	"testing"
)

// all has each rank.
var all = api.Alphabet{Ranks: []int{0, 1, 2, 3}}

// twos has a, g and f of the ranks 0, 1 and 2.
var twos = api.Alphabet{Ranks: []int{0, 1, 2}}

// chains has a (rank 0), g and h (rank 1).
var chains = api.Alphabet{Ranks: []int{0, 1, 1}}

// profile contains for each state of two automata the number of runs that
// assign it to the root of a tree, where 2 stands for several. Least is the
// least tree with these numbers.
type profile struct {
	a, b  []int
	least api.Tree
}

func (p profile) key() string {
	text := ""
	for _, number := range slices.Concat(p.a, p.b) {
		text += strconv.Itoa(number)
	}
	return text
}

// profilesOf returns the profiles that trees have, or nil if there are more than
// so many.
func profilesOf(al api.Alphabet, a, b api.Automaton, most int) []profile {
	a, b = withoutDuplicates(a), withoutDuplicates(b)
	list := []profile{}
	index := map[string]int{}
	for again := true; again; {
		again = false
		for sym, rank := range al.Ranks {
			for _, from := range sample.Lists(rank, len(list)) {
				p := above(a, b, sym, list, from)
				i, known := index[p.key()]
				if !known {
					index[p.key()] = len(list)
					list = append(list, p)
					again = true
				} else if tree.Compare(p.least, list[i].least) < 0 {
					list[i], again = p, true
				}
			}
			if len(list) > most {
				return nil
			}
		}
	}
	return list
}

// above returns the profile of a node above trees with profiles of a list.
func above(a, b api.Automaton, sym int, list []profile, from []int) profile {
	var p profile
	var runsA, runsB [][]int
	p.least.Sym = sym
	for _, i := range from {
		runsA, runsB = append(runsA, list[i].a), append(runsB, list[i].b)
		p.least.Kids = append(p.least.Kids, list[i].least)
	}
	p.a, p.b = runsAbove(a, sym, runsA), runsAbove(b, sym, runsB)
	return p
}

// runsAbove returns the number of runs for each state at a node with a symbol,
// up to 2, from these numbers for its subtrees.
func runsAbove(a api.Automaton, sym int, kids [][]int) []int {
	runs := make([]int, a.States)
	for _, r := range a.Rules {
		if r.Sym != sym {
			continue
		}
		number := 1
		for i, state := range r.From {
			number *= kids[i][state]
		}
		runs[r.To] = min(runs[r.To]+number, 2)
	}
	return runs
}

// withoutDuplicates returns a without rules that follow an identical one.
func withoutDuplicates(a api.Automaton) api.Automaton {
	b := api.Automaton{States: a.States, Final: a.Final}
	for _, r := range a.Rules {
		same := func(other api.Rule) bool {
			return r.Sym == other.Sym && r.To == other.To && slices.Equal(r.From, other.From)
		}
		if !slices.ContainsFunc(b.Rules, same) {
			b.Rules = append(b.Rules, r)
		}
	}
	return b
}

// acceptingRuns returns the number of runs of a with a final state at the root,
// given the numbers for states, where 2 stands for several.
func acceptingRuns(a api.Automaton, runs []int) int {
	number := 0
	for _, state := range a.Final {
		number = min(number+runs[state], 2)
	}
	return number
}

// runsOn returns the number of runs of a, without duplicates, on x for each
// state at the root, up to 2.
func runsOn(a api.Automaton, x api.Tree) []int {
	var kids [][]int
	for _, kid := range x.Kids {
		kids = append(kids, runsOn(a, kid))
	}
	return runsAbove(a, x.Sym, kids)
}

// leastOf returns the least tree of the profiles with a property, or nil.
func leastOf(profiles []profile, property func(p profile) bool) *api.Tree {
	var least *api.Tree
	for _, p := range profiles {
		if property(p) && (least == nil || tree.Compare(p.least, *least) < 0) {
			least = &p.least
		}
	}
	return least
}

// most returns how many profiles are to be computed over an alphabet.
func most(al api.Alphabet) int {
	if slices.Contains(al.Ranks, 3) {
		return 10
	}
	return 30
}

// forPairs calls f with alphabets, pairs of automata over them, and all profiles
// of their trees, if there are not too many of these.
func forPairs(f func(al api.Alphabet, a, b api.Automaton, profiles []profile)) {
	for _, al := range sample.Alphabets() {
		automata := append(sample.Automata(al), api.Automaton{}, api.Automaton{States: 3, Final: []int{0, 1, 2}}, sample.Everything(al))
		for i, a := range automata {
			for _, j := range []int{i, (i*37 + 11) % len(automata), (i + len(automata)/2) % len(automata)} {
				if profiles := profilesOf(al, a, automata[j], most(al)); profiles != nil {
					f(al, a, automata[j], profiles)
				}
			}
		}
	}
}

// decision is what a function returns.
type decision struct {
	is bool
	x  api.Tree
	e  api.Errno
}

func decided(is bool, x api.Tree, e api.Errno) decision {
	return decision{is, x, e}
}

// isZero reports whether a tree is the zero tree.
func isZero(x api.Tree) bool {
	return x.Sym == 0 && len(x.Kids) == 0
}

// check checks a decision: it is true if there is no tree that violates the
// property, and otherwise false with the least of these trees.
func check(t *testing.T, what string, d decision, want *api.Tree) {
	t.Helper()
	if want == nil {
		if !d.is || !isZero(d.x) || d.e != api.OK {
			t.Errorf("%s: %t, %v, error %d, want true", what, d.is, d.x, d.e)
		}
		return
	}
	if d.is || tree.Compare(d.x, *want) != 0 || d.e != api.OK {
		t.Errorf("%s: %t, %v, error %d, want %v", what, d.is, d.x, d.e, *want)
	}
}

// checkOrFull is check, unless the result is ErrFull.
func checkOrFull(t *testing.T, what string, d decision, want *api.Tree) {
	t.Helper()
	if d.e == api.ErrFull {
		checkRefused(t, what, d, api.ErrFull)
		return
	}
	check(t, what, d, want)
}

// checkRefused checks a decision that comes with an error.
func checkRefused(t *testing.T, what string, d decision, want api.Errno) {
	t.Helper()
	if d.is || !isZero(d.x) || d.e != want {
		t.Errorf("%s: %t, %v, error %d, want error %d", what, d.is, d.x, d.e, want)
	}
}

// names describes two automata.
func names(a, b api.Automaton) string {
	return sample.Show(a) + " and " + sample.Show(b)
}

// chain makes a tree over chains: nodes with g above nodes with h.
func chain(g, h int) *api.Tree {
	x := sample.Tree(0)
	for range h {
		x = sample.Tree(2, x)
	}
	for range g {
		x = sample.Tree(1, x)
	}
	return &x
}

// full makes the tree that sample.Power(2, levels) accepts.
func full(levels int) *api.Tree {
	x := sample.Tree(0)
	for range levels - 1 {
		x = sample.Tree(2, x, x)
	}
	return &x
}

// sized returns an automaton over twos that accepts one tree, which has n nodes.
// It has few states: n nodes are one more, or two equal halves and one more.
func sized(n int) (api.Automaton, *api.Tree) {
	if n == 1 {
		return sample.Power(2, 1), full(1)
	}
	if n%2 == 0 {
		a, x := sized(n - 1)
		y := sample.Tree(1, *x)
		return extended(a, 1, a.States-1), &y
	}
	a, x := sized(n / 2)
	y := sample.Tree(2, *x, *x)
	return extended(a, 2, a.States-1, a.States-1), &y
}

// extended returns a with a new state, the only final one, above some states.
func extended(a api.Automaton, sym int, from ...int) api.Automaton {
	return api.Automaton{States: a.States + 1, Final: []int{a.States}, Rules: append(a.Rules, sample.Rule(sym, a.States, from...))}
}
