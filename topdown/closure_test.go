package topdown_test

import (
	"boskage/api"
	"boskage/sample"
	"boskage/topdown"
	"boskage/tree"
	"slices"
	"testing"
)

// forAutomata calls f with alphabets, bottom-up automata over them, and small
// trees.
func forAutomata(f func(al api.Alphabet, a api.Automaton, trees []api.Tree)) {
	var s sample.Source
	for _, al := range sample.Alphabets() {
		trees := sample.Trees(al)
		trees = trees[:min(len(trees), 100)]
		for i, a := range append(sample.Automata(al), api.Automaton{}, api.Automaton{States: 3, Final: []int{0, 1, 2}}, sample.Everything(al)) {
			if i%2 == 0 {
				f(al, a, trees)
			} else {
				f(al, sample.Acyclic(&s, al, a.States, len(a.Rules)), trees)
			}
		}
	}
	for _, ranks := range [][]int{{0, 0, 2}, {0, 0, 1, 2}, {0, 0, 0, 2}, {0, 0, 3}, {0, 0, 2, 2}} {
		al := api.Alphabet{Ranks: ranks}
		for range 60 {
			f(al, sample.Automaton(&s, al, 3, 6+s.Below(8)), sample.Trees(al))
		}
	}
}

// P10.7, P10.10: the closure accepts the trees all of whose paths occur in
// accepted trees.
func TestClosure(t *testing.T) {
	forAutomata(func(al api.Alphabet, a api.Automaton, trees []api.Tree) {
		d, e := topdown.Closure(al, a)
		checkValid(t, "Closure of "+sample.Show(a), al, d, e)
		p := paths{al, a, map[string]bool{}}
		for _, x := range trees {
			is := sample.TopdownAccepts(d, x)
			if is != p.inClosure(x) || sample.Accepts(a, x) && !is {
				t.Errorf("Closure of %s: %t for %v", sample.Show(a), is, x)
				break
			}
		}
	})
}

// P10.7: the closure of the language of a top-down automaton is this language.
func TestClosureOfClosed(t *testing.T) {
	forAll(func(al api.Alphabet, d api.Topdown) {
		a, e := topdown.Auto(al, d)
		if e != api.OK {
			t.Errorf("error %d", e)
		}
		c, e := topdown.Closure(al, a)
		checkValid(t, "Closure", al, c, e)
		checkSame(t, al, c, d, true)
		again, e := topdown.Closure(al, sample.Copy(a))
		checkTopdown(t, "Closure again", again, e, c)
		if !mayBeFull(t, al, a) {
			closedOf(al, a).check(t, sample.ShowTopdown(d), nil)
		}
	})
}

// P10.7: no ErrFull as long as all sets of useful states fit; beyond, a result
// is right or ErrFull.
func TestClosureAtTheLimit(t *testing.T) {
	al := api.Alphabet{Ranks: []int{0, 1, 1, 1, 1}}
	trees := sample.RandomTrees(al, 60, 30)
	for _, states := range []int{2, 3, 7, 8, 9, 20, 300} {
		a := downward(states)
		useless := sample.Copy(a)
		if states <= 8 {
			useless.States = 300
			for state := 100; state < 190; state++ {
				useless.Rules = append(useless.Rules, sample.Rule(1, state, 0), sample.Rule(2, state+1, state), sample.Rule(1, 0, state+100), sample.Rule(2, state+100, state+101))
			}
		}
		for _, b := range []api.Automaton{a, useless} {
			d, e := topdown.Closure(al, b)
			if states > 8 && e != api.OK {
				checkRefused(t, "Closure", d, e, api.ErrFull)
				continue
			}
			checkValid(t, "Closure", al, d, e)
			for _, x := range trees {
				if sample.TopdownAccepts(d, x) != sample.Accepts(a, x) {
					t.Errorf("Closure of %s is wrong for %v", sample.Show(b), x)
				}
			}
		}
	}
}

// P10.7: no more states are needed than sets: exactly 2^8 - 1 are.
func TestClosureStates(t *testing.T) {
	al := api.Alphabet{Ranks: []int{0, 1, 1, 1, 1}}
	a := downward(8)
	a.Rules = slices.DeleteFunc(a.Rules, func(r api.Rule) bool { return len(r.From) == 0 && r.To > 0 })
	d, e := topdown.Closure(al, a)
	checkValid(t, "Closure", al, d, e)
	minimal, e := topdown.Minimal(al, d)
	if e != api.OK || minimal.States != 255 {
		t.Errorf("%d states, error %d", minimal.States, e)
	}
}

// P10.8: a decision is right for all small trees, and the tree with it is of the
// closure, not accepted, and not after one of these.
func TestClosed(t *testing.T) {
	open, whole := 0, 0
	forAutomata(func(al api.Alphabet, a api.Automaton, trees []api.Tree) {
		p := paths{al, a, map[string]bool{}}
		var want *api.Tree
		for _, x := range trees {
			if !sample.Accepts(a, x) && p.inClosure(x) {
				want = &x
				break
			}
		}
		c := closedOf(al, a)
		switch {
		case c.e == api.ErrFull && mayBeFull(t, al, a):
			c.checkRefused(t, "Closed", api.ErrFull)
		case want != nil:
			open++
			c.check(t, sample.Show(a), want)
		case c.is:
			whole++
			c.check(t, sample.Show(a), nil)
		default:
			last := trees[len(trees)-1]
			if c.e != api.OK || sample.Accepts(a, c.x) || !p.inClosure(c.x) || tree.Compare(c.x, last) <= 0 {
				t.Errorf("Closed for %s: %v, error %d", sample.Show(a), c.x, c.e)
			}
		}
	})
	if open < 50 || whole < 50 {
		t.Errorf("%d languages are not closed, %d are: that shows little", open, whole)
	}
}

// P10.8: the chapter's first example.
func TestClosedExample(t *testing.T) {
	al := api.Alphabet{Ranks: []int{0, 0, 2}}
	a := api.Automaton{States: 3, Final: []int{2}, Rules: []api.Rule{
		sample.Rule(0, 0), sample.Rule(1, 1), sample.Rule(2, 2, 0, 1), sample.Rule(2, 2, 1, 0),
	}}
	want := sample.Tree(2, sample.Tree(0), sample.Tree(0))
	closedOf(al, a).check(t, "the example", &want)
	d, e := topdown.Closure(al, a)
	checkValid(t, "Closure", al, d, e)
	checkSame(t, al, d, api.Topdown{States: 2, Next: [][][]int{{nil, nil, {1, 1}}, {{}, {}, nil}}}, true)
}

// P10.8: some languages.
func TestClosedLanguages(t *testing.T) {
	al := api.Alphabet{Ranks: []int{0, 0, 2, 1}}
	a, b := sample.Tree(0), sample.Tree(1)
	withB := api.Automaton{States: 2, Final: []int{1}, Rules: []api.Rule{
		sample.Rule(0, 0), sample.Rule(1, 1), sample.Rule(3, 0, 0), sample.Rule(3, 1, 1),
	}}
	for _, from := range sample.Lists(2, 2) {
		withB.Rules = append(withB.Rules, sample.Rule(2, max(from[0], from[1]), from...))
	}
	allB := sample.Copy(withB)
	allB.Rules = slices.DeleteFunc(allB.Rules, func(r api.Rule) bool { return r.Sym == 2 && r.From[0] != r.From[1] })
	closedOf(al, withB).check(t, "some leaf b", at(sample.Tree(2, a, a)))
	closedOf(al, allB).check(t, "all leaves b", nil)
	equal := sample.Copy(allB)
	equal.Final = []int{0, 1}
	closedOf(al, equal).check(t, "all leaves equal", at(sample.Tree(2, a, b)))
	below := sample.Copy(equal)
	below.States, below.Final = 3, []int{2}
	below.Rules = append(below.Rules, sample.Rule(3, 2, 0), sample.Rule(3, 2, 1))
	closedOf(al, below).check(t, "all leaves equal, below g", at(sample.Tree(3, sample.Tree(2, a, b))))
	closedOf(al, api.Automaton{}).check(t, "nothing", nil)
	closedOf(al, api.Automaton{States: 300, Final: []int{299}}).check(t, "nothing", nil)
	closedOf(al, sample.Everything(al)).check(t, "everything", nil)
}

func at(x api.Tree) *api.Tree {
	return &x
}

// P10.8: the least tree has more than MaxSize nodes, or exactly MaxSize.
func TestClosedFull(t *testing.T) {
	al := api.Alphabet{Ranks: []int{0, 0, 3, 1}}
	for _, x := range []struct{ levels, chain int }{{6, 0}, {300, 0}, {5, 56}, {5, 57}, {5, 58}} {
		a := crossed(x.levels, x.chain)
		c := closedOf(al, a)
		size := x.chain + 1 + 2*power(3, min(x.levels, 20)) + 1
		if size > 300 {
			c.checkRefused(t, "Closed", api.ErrFull)
		} else if c.e != api.ErrFull {
			if c.is || c.e != api.OK || tree.Size(c.x) != size {
				t.Errorf("Closed: %t, %d nodes, error %d, want %d nodes", c.is, tree.Size(c.x), c.e, size)
			}
		}
	}
}

// power returns the number of nodes of the full tree that sample.Power accepts.
func power(rank, levels int) int {
	nodes := 0
	for range levels {
		nodes = nodes*rank + 1
	}
	return nodes
}

// crossed returns an automaton that accepts two trees: f(x, y, a) and f(y, x, a)
// below so many nodes g, where x and y are full trees of the rank 3, and their
// leaves differ.
func crossed(levels, chain int) api.Automaton {
	levels = min(levels, 120)
	a := api.Automaton{States: 2*levels + 2 + chain, Final: []int{2*levels + 1 + chain}, Rules: []api.Rule{sample.Rule(0, 0), sample.Rule(1, levels), sample.Rule(0, 2*levels)}}
	for state := range levels - 1 {
		other := levels + state
		a.Rules = append(a.Rules, sample.Rule(2, state+1, state, state, state), sample.Rule(2, other+1, other, other, other))
	}
	x, y, root := levels-1, 2*levels-1, 2*levels+1
	a.Rules = append(a.Rules, sample.Rule(2, root, x, y, 2*levels), sample.Rule(2, root, y, x, 2*levels))
	for i := range chain {
		a.Rules = append(a.Rules, sample.Rule(3, root+i+1, root+i))
	}
	return a
}

// P10.8: no ErrFull where it is not permitted; otherwise a decision is right or
// ErrFull.
func TestClosedAtTheLimit(t *testing.T) {
	al := api.Alphabet{Ranks: []int{0, 1, 1, 1, 1}}
	for _, states := range []int{2, 3, 4, 5, 8, 9, 20, 300} {
		a := downward(states)
		c := closedOf(al, a)
		if c.e == api.ErrFull && mayBeFull(t, al, a) {
			c.checkRefused(t, "Closed", api.ErrFull)
		} else {
			c.check(t, sample.Show(a), nil)
		}
	}
	var s sample.Source
	for _, ranks := range [][]int{{0, 2}, {0, 0, 2}, {0, 1, 3}, {0, 0, 1, 1}} {
		al := api.Alphabet{Ranks: ranks}
		for range 100 {
			a := sample.Automaton(&s, al, 2+s.Below(3), 4+s.Below(10))
			c := closedOf(al, a)
			if c.e != api.OK && !(c.e == api.ErrFull && mayBeFull(t, al, a)) {
				t.Errorf("Closed for %s: error %d", sample.Show(a), c.e)
			}
		}
	}
}
