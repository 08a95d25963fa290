package query_test

import (
	"boskage/api"
	"boskage/auto"
	"boskage/hedge"
	"boskage/path"
	"boskage/query"
	"boskage/sample"
	"boskage/samplepath"
	"testing"
)

// automaton returns Automaton of a path over n labels, which must be valid and
// deterministic. It returns false if there are too many steps.
func automaton(t *testing.T, n int, p path.Path) (api.Automaton, bool) {
	t.Helper()
	al, _ := hedge.Binary(n)
	a, e := query.Automaton(n, p)
	if e == api.ErrFull && path.Length(p) > 2 && sample.Equal(a, api.Automaton{}) {
		return a, false
	}
	if e != api.OK || !auto.Valid(al, a) || !sample.Deterministic(a) {
		t.Errorf("%s: error %d, %s", samplepath.Show(p), e, sample.Show(a))
	}
	return a, true
}

// checkAccepts checks that a accepts the encoding of x if and only if p selects
// some node in it.
func checkAccepts(t *testing.T, n int, p path.Path, a api.Automaton, x api.Node) {
	t.Helper()
	if got, want := sample.Accepts(a, sample.Encoding(n, x)), selectsSome(p, x); got != want {
		t.Errorf("%s: %s is accepted: %t", samplepath.Show(p), sample.ShowNode(x), got)
	}
}

// P14.1, P14.7
func TestAutomaton(t *testing.T) {
	trees := sample.Documents(2, 4)
	for _, p := range samplepath.Upto(2, 2) {
		a, _ := automaton(t, 2, p)
		for _, x := range trees {
			checkAccepts(t, 2, p, a, x)
		}
	}
	trees = sample.Documents(1, 6)
	for _, p := range samplepath.All(1, 3) {
		a, _ := automaton(t, 1, p)
		for i := 0; i < len(trees); i += 5 {
			checkAccepts(t, 1, p, a, trees[i])
		}
	}
}

// P14.1: only trees are accepted, and no other hedges.
func TestAutomatonOfHedges(t *testing.T) {
	trees := sample.Documents(2, 3)
	for _, p := range samplepath.Upto(2, 2) {
		a, _ := automaton(t, 2, p)
		if sample.Accepts(a, sample.Encoding(2)) {
			t.Errorf("%s: the empty hedge is accepted", samplepath.Show(p))
		}
		for i, x := range trees {
			y := trees[(i*7+3)%len(trees)]
			if sample.Accepts(a, sample.Encoding(2, x, y)) || sample.Accepts(a, sample.Encoding(2, y, x, y)) {
				t.Errorf("%s: %s with other trees is accepted", samplepath.Show(p), sample.ShowNode(x))
			}
		}
	}
}

// P14.1: paths with many steps, and large trees.
func TestAutomatonRandom(t *testing.T) {
	var s sample.Source
	known := 0
	for n := 1; n <= 4; n++ {
		for _, p := range samplepath.RandomList(n, 150, api.MaxSteps) {
			a, some := automaton(t, n, p)
			if !some {
				continue
			}
			known++
			for range 12 {
				checkAccepts(t, n, p, a, sample.RandomNode(&s, n, 1+s.Below(20)))
			}
		}
	}
	if known < 500 {
		t.Errorf("%d automata", known)
	}
	for _, p := range samplepath.RandomList(8, 20, 2) {
		a, _ := automaton(t, 8, p)
		checkAccepts(t, 8, p, a, sample.RandomNode(&s, 8, 149))
	}
}

// P14.1: so many steps that the automaton can be too large.
func TestAutomatonOfManySteps(t *testing.T) {
	var s sample.Source
	for n := 5; n <= api.MaxLabels; n++ {
		for _, text := range []string{
			"desc::*[child::a][child::b][child::c][child::d][child::e]", "child::*[!desc::a][!desc::b][!desc::c][!desc::d][desc::e]",
			"desc::e[next::a][child::b]/child::a[next::c][desc::b]", "desc::a/desc::b/desc::c/desc::d/desc::e/desc::a",
			"desc::*[child::a][child::b][child::c][child::d]", "desc::*[child::a][child::b]/next::c",
		} {
			p := read(t, n, text)
			a, some := automaton(t, n, p)
			if !some {
				continue
			}
			for range 30 {
				checkAccepts(t, n, p, a, sample.RandomNode(&s, n, 1+s.Below(40)))
			}
		}
	}
}

// P14.1: with at most 2 steps there is always an automaton.
func TestAutomatonOfTwoSteps(t *testing.T) {
	for n := 3; n <= api.MaxLabels; n++ {
		list := samplepath.Upto(n, 2)
		for i := n % 5; i < len(list); i += 5 {
			if _, some := automaton(t, n, list[i]); !some {
				t.Errorf("%s over %d labels: ErrFull", samplepath.Show(list[i]), n)
			}
		}
	}
}

// P14.1
func TestAutomatonExamples(t *testing.T) {
	tests := []struct {
		text, tree string
		want       bool
	}{
		{"child::a", "a(b)", true},
		{"child::a", "b(a)", false},
		{"desc::a", "b(b b(b a) b)", true},
		{"desc::a", "b(b b(b b) b)", false},
		{"next::*", "a(a a)", false},
		{"desc::a/next::b", "b(a b)", true},
		{"desc::a/next::b", "b(b a)", false},
		{"desc::a/next::b", "b(b(a) b)", false},
		{"desc::b[!child::*]", "a(b(a) b(a))", false},
		{"desc::b[!child::*]", "a(b(a) b(a b))", true},
		{"child::*[!next::*]", "a(a a)", true},
		{"desc::a[desc::b]/child::a", "a(b a(b))", true},
		{"desc::a[desc::b]/child::a", "a(b b(a))", false},
		{"desc::a[child::b/next::b][!child::a]", "a(a(b b a) a(b b))", true},
		{"desc::a[child::b/next::b][!child::a]", "a(a(b b a) a(b) b)", false},
	}
	for _, test := range tests {
		a, _ := automaton(t, 2, read(t, 2, test.text))
		if got := sample.Accepts(a, sample.Encoding(2, readNode(t, test.tree))); got != test.want {
			t.Errorf("%s: %s is accepted: %t", test.text, test.tree, got)
		}
	}
}

// P14.1: paths that are not valid.
func TestAutomatonErrors(t *testing.T) {
	check := func(what string, n int, p path.Path) {
		t.Helper()
		if a, e := query.Automaton(n, p); e != api.ErrArg || !sample.Equal(a, api.Automaton{}) {
			t.Errorf("%s: %s, error %d", what, sample.Show(a), e)
		}
	}
	for _, p := range samplepath.Bad(2) {
		check("a bad path", 2, p)
	}
	for _, n := range []int{0, -1, 9, 1 << 40, -1 << 63} {
		check("a bad number of labels", n, read(t, 2, "desc::*"))
	}
	check("one label", 1, read(t, 2, "desc::b"))
}
