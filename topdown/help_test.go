package topdown_test

import (
	"boskage/api"
	"boskage/auto"
	"boskage/boolean"
	"boskage/empty"
	"boskage/sample"
	"boskage/topdown"
	"boskage/tree"
	"slices"
	"testing"
)

// all has each rank.
var all = api.Alphabet{Ranks: []int{0, 1, 2, 3}}

// chains has a (rank 0) and g (rank 1).
var chains = api.Alphabet{Ranks: []int{0, 1}}

// none accepts no tree, and is trim.
func none() api.Topdown {
	return api.Topdown{Start: -1}
}

// forAll calls f with alphabets and automata over them.
func forAll(f func(al api.Alphabet, d api.Topdown)) {
	for _, al := range sample.Alphabets() {
		for _, d := range sample.Topdowns(al) {
			f(al, d)
		}
	}
}

// accepting reports for each state of d whether some tree is accepted from it.
func accepting(d api.Topdown) []bool {
	is := make([]bool, d.States)
	for range d.States {
		for state, row := range d.Next {
			for _, kids := range row {
				if kids != nil && !slices.ContainsFunc(kids, func(kid int) bool { return !is[kid] }) {
					is[state] = true
				}
			}
		}
	}
	return is
}

// trimmed returns Trim of d, word for word.
func trimmed(d api.Topdown) api.Topdown {
	is := accepting(d)
	if d.Start < 0 || !is[d.Start] {
		return none()
	}
	order := []int{d.Start}
	visit := func(kids []int) bool {
		return kids != nil && !slices.ContainsFunc(kids, func(kid int) bool { return !is[kid] })
	}
	for i := 0; i < len(order); i++ {
		for _, kids := range d.Next[order[i]] {
			for _, kid := range kids {
				if visit(kids) && !slices.Contains(order, kid) {
					order = append(order, kid)
				}
			}
		}
	}
	t := api.Topdown{States: len(order)}
	for _, state := range order {
		var row [][]int
		for _, kids := range d.Next[state] {
			var list []int
			if visit(kids) {
				list = []int{}
				for _, kid := range kids {
					list = append(list, slices.Index(order, kid))
				}
			}
			row = append(row, list)
		}
		t.Next = append(t.Next, row)
	}
	return t
}

// minimized returns Minimal of d: Trim, where states from which the same trees
// are accepted become the first of them.
func minimized(d api.Topdown) api.Topdown {
	t := trimmed(d)
	differ := map[[2]int]bool{}
	for range t.States + 1 {
		for i := range t.States {
			for j := range t.States {
				differ[[2]int{i, j}] = differ[[2]int{i, j}] || differNow(t, i, j, differ)
			}
		}
	}
	first := func(state int) int {
		other := 0
		for differ[[2]int{state, other}] {
			other++
		}
		return other
	}
	for _, row := range t.Next {
		for _, kids := range row {
			for i, kid := range kids {
				kids[i] = first(kid)
			}
		}
	}
	return trimmed(t)
}

// differNow reports whether two states have not both a transition for some
// symbol, or lead to states that differ.
func differNow(d api.Topdown, i, j int, differ map[[2]int]bool) bool {
	for sym, kids := range d.Next[i] {
		others := d.Next[j][sym]
		if (kids == nil) != (others == nil) {
			return true
		}
		for pos, kid := range kids {
			if differ[[2]int{kid, others[pos]}] {
				return true
			}
		}
	}
	return false
}

// variants returns automata with the language of d.
func variants(s *sample.Source, al api.Alphabet, d api.Topdown) []api.Topdown {
	return []api.Topdown{trimmed(d), renumbered(s, d), twofold(s, d), renumbered(s, twofold(s, trimmed(d))), withDeadEnds(al, d)}
}

// renumbered returns d with its states in another order.
func renumbered(s *sample.Source, d api.Topdown) api.Topdown {
	order := make([]int, d.States)
	for i := range order {
		j := s.Below(i + 1)
		order[i], order[j] = order[j], i
	}
	r := api.Topdown{States: d.States, Start: d.Start, Next: make([][][]int, d.States)}
	if d.Start >= 0 {
		r.Start = order[d.Start]
	}
	for state, row := range sample.CopyTopdown(d).Next {
		for _, kids := range row {
			for i, kid := range kids {
				kids[i] = order[kid]
			}
		}
		r.Next[order[state]] = row
	}
	return r
}

// twofold returns an automaton with two copies of each state of d, which lead to
// one of the two copies of each.
func twofold(s *sample.Source, d api.Topdown) api.Topdown {
	t := api.Topdown{States: 2 * d.States, Start: d.Start}
	for range 2 {
		for _, row := range sample.CopyTopdown(d).Next {
			for _, kids := range row {
				for i := range kids {
					kids[i] += d.States * s.Below(2)
				}
			}
			t.Next = append(t.Next, row)
		}
	}
	return t
}

// withDeadEnds returns d with two more states: from one, no tree is accepted,
// and the other one is never reached. All missing transitions lead to the first.
func withDeadEnds(al api.Alphabet, d api.Topdown) api.Topdown {
	w := sample.CopyTopdown(d)
	w.States += 2
	w.Next = append(w.Next, make([][]int, len(al.Ranks)), make([][]int, len(al.Ranks)))
	for state := range w.Next {
		for sym, rank := range al.Ranks {
			if w.Next[state][sym] == nil && rank > 0 {
				w.Next[state][sym] = slices.Repeat([]int{d.States}, rank)
			}
		}
	}
	for sym, rank := range al.Ranks {
		w.Next[d.States+1][sym] = slices.Repeat([]int{d.States + 1}, rank)
	}
	return w
}

// paths decides which trees have only paths that occur in trees that an
// automaton accepts.
type paths struct {
	al    api.Alphabet
	a     api.Automaton
	known map[string]bool
}

// step is a node on a path: its symbol, and the position of the next node, or 0
// for a leaf.
type step struct {
	sym, pos int
}

// inClosure reports whether all paths of x occur in accepted trees. An accepted
// tree with a path exists if one is accepted by an automaton, too, that follows
// the path.
func (p *paths) inClosure(x api.Tree) bool {
	var follow func(x api.Tree, path []step) bool
	follow = func(x api.Tree, path []step) bool {
		for i, kid := range x.Kids {
			if !follow(kid, append(slices.Clone(path), step{x.Sym, i})) {
				return false
			}
		}
		return len(x.Kids) > 0 || p.occurs(append(slices.Clone(path), step{x.Sym, 0}))
	}
	return follow(x, nil)
}

// occurs reports whether some accepted tree has a path.
func (p *paths) occurs(path []step) bool {
	key := ""
	for _, x := range path {
		key += string(rune(x.sym)) + string(rune(x.pos))
	}
	is, known := p.known[key]
	if !known {
		both, e1 := boolean.Meet(p.al, p.a, withPath(p.al, path))
		no, e2 := empty.Empty(p.al, both)
		is = !no && e1 == api.OK && e2 == api.OK
		p.known[key] = is
	}
	return is
}

// withPath returns an automaton that accepts the trees with a path.
func withPath(al api.Alphabet, path []step) api.Automaton {
	a := sample.Everything(al)
	a.States, a.Final = 1+len(path), []int{1}
	for i, x := range path {
		from := make([]int, al.Ranks[x.sym])
		if i < len(path)-1 {
			from[x.pos] = i + 2
		}
		a.Rules = append(a.Rules, sample.Rule(x.sym, i+1, from...))
	}
	return a
}

// usefulStates returns the number of states of Trim of a.
func usefulStates(t *testing.T, al api.Alphabet, a api.Automaton) int {
	t.Helper()
	b, e := auto.Trim(al, a)
	if e != api.OK {
		t.Fatalf("error %d", e)
	}
	return b.States
}

// mayBeFull reports whether Closed may return ErrFull for a, unless the tree has
// too many nodes.
func mayBeFull(t *testing.T, al api.Alphabet, a api.Automaton) bool {
	t.Helper()
	k := usefulStates(t, al, a)
	if k > 8 {
		return true
	}
	others := 1<<k + 1
	if sample.Deterministic(a) {
		others = a.States + 1
	}
	full := 0
	for _, rank := range al.Ranks {
		lists := 1
		for range rank {
			lists *= others
		}
		full += lists
	}
	return others<<k > api.MaxStates || (full*len(al.Ranks))<<k > api.MaxRules
}

// checkTopdown checks a result and its error.
func checkTopdown(t *testing.T, what string, got api.Topdown, e api.Errno, want api.Topdown) {
	t.Helper()
	if e != api.OK || !sample.EqualTopdowns(got, want) {
		t.Errorf("%s: got %s, error %d, want %s", what, sample.ShowTopdown(got), e, sample.ShowTopdown(want))
	}
}

// checkRefused checks a result that comes with an error.
func checkRefused(t *testing.T, what string, got api.Topdown, e, want api.Errno) {
	t.Helper()
	if e != want || got.States != 0 || got.Start != 0 || len(got.Next) != 0 {
		t.Errorf("%s: got %s, error %d, want error %d", what, sample.ShowTopdown(got), e, want)
	}
}

// checkValid checks that a result is valid and comes without an error.
func checkValid(t *testing.T, what string, al api.Alphabet, got api.Topdown, e api.Errno) {
	t.Helper()
	if e != api.OK || !topdown.Valid(al, got) {
		t.Errorf("%s: got %s, error %d", what, sample.ShowTopdown(got), e)
	}
}

// checkSame checks the result of Same.
func checkSame(t *testing.T, al api.Alphabet, d, e api.Topdown, want bool) {
	t.Helper()
	same, err := topdown.Same(al, d, e)
	if err != api.OK || same != want {
		t.Errorf("Same of %s and %s: %t, error %d, want %t", sample.ShowTopdown(d), sample.ShowTopdown(e), same, err, want)
	}
}

// isZero reports whether a tree is the zero tree.
func isZero(x api.Tree) bool {
	return x.Sym == 0 && len(x.Kids) == 0
}

// closed is what Closed returns.
type closed struct {
	is bool
	x  api.Tree
	e  api.Errno
}

func closedOf(al api.Alphabet, a api.Automaton) closed {
	is, x, e := topdown.Closed(al, a)
	return closed{is, x, e}
}

// check checks a decision: it is true if there is no tree that is not accepted,
// and otherwise false with the least of these.
func (c closed) check(t *testing.T, what string, want *api.Tree) {
	t.Helper()
	if want == nil {
		if !c.is || !isZero(c.x) || c.e != api.OK {
			t.Errorf("%s: %t, %v, error %d, want true", what, c.is, c.x, c.e)
		}
	} else if c.is || tree.Compare(c.x, *want) != 0 || c.e != api.OK {
		t.Errorf("%s: %t, %v, error %d, want %v", what, c.is, c.x, c.e, *want)
	}
}

// checkRefused checks a decision that comes with an error.
func (c closed) checkRefused(t *testing.T, what string, want api.Errno) {
	t.Helper()
	if c.is || !isZero(c.x) || c.e != want {
		t.Errorf("%s: %t, %v, error %d, want error %d", what, c.is, c.x, c.e, want)
	}
}

// downward returns an automaton of n states whose closure needs all sets of them
// but the empty one. The alphabet needs a symbol 0 of rank 0, and then four of
// rank 1: below them, all states are turned by one, 0 and 1 are exchanged, 1 is
// added beside 0, and 0 is forgotten.
func downward(n int) api.Automaton {
	up := sample.AllSets(n)
	down := api.Automaton{States: n, Final: []int{0}}
	for _, r := range up.Rules {
		if len(r.From) > 0 {
			down.Rules = append(down.Rules, sample.Rule(r.Sym, r.From[0], r.To))
		}
	}
	for state := range n {
		down.Rules = append(down.Rules, sample.Rule(0, state))
	}
	return down
}
