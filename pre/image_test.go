package pre_test

import (
	"boskage/api"
	"boskage/auto"
	"boskage/boolean"
	"boskage/empty"
	"boskage/mini"
	"boskage/pre"
	"boskage/sample"
	"boskage/trans"
	"boskage/tree"
	"slices"
	"testing"
)

// isOutput reports whether u is the output for some tree that a accepts, or false
// and false if the automata for this are too large.
func isOutput(tr api.Transducer, a api.Automaton, u api.Tree) (is, known bool) {
	single, e := auto.Single(tr.Out, u)
	if e != api.OK {
		return false, false
	}
	inverse, e := pre.Inverse(tr, single)
	if e != api.OK {
		return false, false
	}
	both, e := boolean.Meet(tr.In, inverse, a)
	if e != api.OK {
		return false, false
	}
	none, e := empty.Empty(tr.In, both)
	return !none, e == api.OK
}

// checkImage checks an image with the outputs for the given trees, and with some
// trees over the output alphabet. It returns the number of the latter.
func checkImage(t *testing.T, tr api.Transducer, a, image api.Automaton, trees, outputs []api.Tree) int {
	t.Helper()
	if !auto.Valid(tr.Out, image) {
		t.Errorf("%s: %s is not valid", show(tr, a), sample.Show(image))
		return 0
	}
	for _, x := range trees {
		u, defined := sample.Output(tr, x)
		if defined && tree.Size(u) <= 50 && sample.Accepts(a, x) && !sample.Accepts(image, u) {
			t.Errorf("%s: %s is wrong for %v, the output for %v", show(tr, a), sample.Show(image), u, x)
		}
	}
	checked := 0
	for _, u := range outputs {
		want, known := isOutput(tr, a, u)
		if !known {
			continue
		}
		checked++
		if sample.Accepts(image, u) != want {
			t.Errorf("%s: %s is wrong for %v", show(tr, a), sample.Show(image), u)
		}
	}
	return checked
}

// P16.3, P16.7
func TestImage(t *testing.T) {
	checked, linearOnes := 0, 0
	forCases(func(tr api.Transducer, _, a api.Automaton, trees []api.Tree) {
		image, e := pre.Image(tr, a)
		if linear, _ := trans.Linear(tr); !linear {
			checkRefused(t, show(tr, a), image, e, api.ErrKind)
			return
		}
		linearOnes++
		if e == api.ErrFull && !imageFits(tr, a) {
			checkFull(t, show(tr, a), image, e)
			return
		}
		if e != api.OK {
			t.Errorf("%s: error %d", show(tr, a), e)
		}
		outputs := sample.Trees(tr.Out)
		checked += checkImage(t, tr, a, image, trees, outputs[:min(20, len(outputs))])
	})
	if checked < 2000 || linearOnes < 300 {
		t.Errorf("%d trees checked for %d transducers", checked, linearOnes)
	}
}

// P16.3: transducers and automata up to the limit, and beyond it.
func TestImageAtTheLimit(t *testing.T) {
	var s sample.Source
	fitting, full := 0, 0
	for _, in := range sample.Alphabets() {
		trees := sample.Trees(in)
		for _, out := range []api.Alphabet{{Ranks: []int{0, 1}}, {Ranks: []int{0, 1, 2, 3}}} {
			outputs := sample.Trees(out)[:8]
			for i := range 120 {
				tr := sample.Transducer(&s, in, out, 1+i%8, 1+s.Below(3), true)
				a := sample.Automaton(&s, in, 1+i%5, 4+i%11)
				image, e := pre.Image(tr, a)
				if e == api.OK {
					checkImage(t, tr, a, image, trees[:min(60, len(trees))], outputs)
				}
				if imageFits(tr, a) {
					fitting++
				} else if e == api.ErrFull {
					full++
					checkFull(t, show(tr, a), image, e)
				}
				if e != api.OK && (e != api.ErrFull || imageFits(tr, a)) {
					t.Errorf("%s: error %d", show(tr, a), e)
				}
			}
		}
	}
	if fitting < 200 {
		t.Errorf("%d fit, %d are full", fitting, full)
	}
}

// P16.3: outputs are handed from state to state without nodes, through all of
// them and around.
func TestImageOfCycles(t *testing.T) {
	in := api.Alphabet{Ranks: []int{0, 1, 1}}
	for q := 1; q <= 40; q++ {
		// A node g goes to the next state, h too and adds a node. The last
		// state goes back to the first one.
		tr := api.Transducer{In: in, Out: chains, States: q, Axiom: sample.Call(0, 0), Domain: sample.EverythingTopdown(in)}
		for state := range q {
			next := sample.Call((state+1)%q, 0)
			row := [][]api.Out{nil, {next}, {sample.Side(1, next)}}
			if state == q-1 {
				row[0] = []api.Out{sample.Side(0)}
			}
			tr.Rules = append(tr.Rules, row)
		}
		everything := sample.Everything(in)
		if !imageFits(tr, everything) && q < 10 {
			t.Errorf("%d states do not fit", q)
		}
		image, e := pre.Image(tr, everything)
		if e != api.OK {
			t.Errorf("%d states: error %d", q, e)
			continue
		}
		same, e := mini.Same(chains, image, sample.Everything(chains))
		if !same && e == api.OK {
			t.Errorf("%d states: %s", q, sample.Show(image))
		}
		// Without g, the number of nodes h is q - 1 modulo q.
		onlyH := api.Automaton{States: 1, Final: []int{0}, Rules: []api.Rule{sample.Rule(0, 0), sample.Rule(2, 0, 0)}}
		image, e = pre.Image(tr, onlyH)
		for n := 1; n <= 3*q; n++ {
			if is := sample.Accepts(image, sample.Chain(n, 1, 0)); e != api.OK || is != (n%q == 0) {
				t.Errorf("%d states, %d nodes: %t, error %d", q, n, is, e)
			}
		}
	}
}

// P16.3: only the first of the states makes nodes, and it is reached again only
// through all the others.
func TestImageAround(t *testing.T) {
	in := api.Alphabet{Ranks: []int{0, 1, 1}}
	for q := 2; q <= 20; q++ {
		for first := range q {
			tr := api.Transducer{In: in, Out: chains, States: q, Axiom: sample.Call(first, 0), Domain: sample.EverythingTopdown(in)}
			for state := range q {
				tr.Rules = append(tr.Rules, [][]api.Out{nil, {sample.Call((state+1)%q, 0)}, nil})
			}
			tr.Rules[0][0] = []api.Out{sample.Side(0)}
			tr.Rules[0][2] = []api.Out{sample.Side(1, sample.Call(1, 0))}
			image, e := pre.Image(tr, sample.Everything(in))
			same, e2 := mini.Same(chains, image, sample.Everything(chains))
			if e != api.OK || e2 != api.OK || !same {
				t.Errorf("%d states, from %d: %s, errors %d and %d", q, first, sample.Show(image), e, e2)
			}
		}
	}
}

// checkOrFull checks with chains of some sizes that an image has those for which
// want returns true, unless it is too large. It reports whether it is.
func checkOrFull(t *testing.T, what string, tr api.Transducer, a api.Automaton, sizes []int, want func(n int) bool) bool {
	t.Helper()
	image, e := pre.Image(tr, a)
	if e == api.ErrFull && !imageFits(tr, a) {
		checkFull(t, what, image, e)
		return true
	}
	if e != api.OK || !auto.Valid(tr.Out, image) {
		t.Errorf("%s: %s, error %d", what, sample.Show(image), e)
		return false
	}
	for _, n := range sizes {
		if sample.Accepts(image, sample.Chain(n, 1, 0)) != want(n) {
			t.Errorf("%s: wrong for %d nodes", what, n)
		}
	}
	return false
}

// P16.3: images with as many states or rules as there can be, and more.
func TestImageFull(t *testing.T) {
	identity, _ := trans.Identity(chains)
	for _, number := range []int{299, 300} {
		a := api.Automaton{States: number, Final: []int{number - 1}, Rules: []api.Rule{sample.Rule(0, 0)}}
		for state := range number {
			a.Rules = append(a.Rules, sample.Rule(1, (state+1)%number, state))
		}
		for extra := range 3 {
			tr := identity
			tr.Axiom = sample.ChainSide(extra+1, 1, 1, sample.Call(0, 0))
			full := checkOrFull(t, "states", tr, a, []int{1, 2, 3, 150, 299, 300, 301, 302, 350, 599, 600, 601, 602, 603, 700}, func(n int) bool { return n > extra && (n-extra)%number == 0 })
			if full != (number+extra > api.MaxStates) {
				t.Errorf("%d states and %d: full is %t", number, extra, full)
			}
		}
	}
	al := api.Alphabet{Ranks: []int{0, 1, 1}}
	tr, _ := trans.Identity(al)
	for _, rules := range []int{api.MaxRules - 2, api.MaxRules - 1, api.MaxRules} {
		a := api.Automaton{States: 200, Final: []int{0}, Rules: []api.Rule{sample.Rule(0, 0)}}
		for i := range rules - 1 {
			a.Rules = append(a.Rules, sample.Rule(1+i%2, (i/2+i/400)%200, i/2%200))
		}
		tr.Axiom = sample.Call(0, 0)
		if checkOrFull(t, "rules", tr, a, []int{1, 2, 3, 4, 10}, func(int) bool { return true }) {
			t.Errorf("%d rules: full", rules)
		}
		tr.Axiom = sample.Side(1, sample.Side(1, sample.Call(0, 0)))
		full := checkOrFull(t, "rules", tr, a, []int{1, 2, 3, 4, 10}, func(n int) bool { return n > 2 })
		if full != (rules+2 > api.MaxRules) {
			t.Errorf("%d rules and two: full is %t", rules, full)
		}
	}
}

// P16.3: each rule leads to two states, because these hand their outputs to each
// other.
func TestImageFullOfCopies(t *testing.T) {
	in := api.Alphabet{Ranks: []int{0, 1, 1}}
	tr := api.Transducer{In: in, Out: chains, States: 2, Axiom: sample.Call(0, 0), Domain: sample.EverythingTopdown(in), Rules: [][][]api.Out{
		{{sample.Side(0)}, {sample.Call(1, 0)}, {sample.Side(1, sample.Call(0, 0))}},
		{nil, {sample.Call(0, 0)}, nil},
	}}
	for _, number := range []int{98, 99, 100, 101} {
		a := api.Automaton{States: number, Final: []int{0}, Rules: []api.Rule{sample.Rule(0, 0)}}
		for state := range number {
			a.Rules = append(a.Rules, sample.Rule(1, state, state))
			for to := range number {
				a.Rules = append(a.Rules, sample.Rule(2, to, state))
			}
		}
		full := checkOrFull(t, "copies", tr, a, []int{1, 2, 3, 10}, func(int) bool { return true })
		if full != (2*number*number+2 > api.MaxRules) {
			t.Errorf("%d states: full is %t", number, full)
		}
	}
}

// P16.3: subtrees that are not called decide only by being there.
func TestImageOfErased(t *testing.T) {
	in, out := api.Alphabet{Ranks: []int{0, 0, 2}}, api.Alphabet{Ranks: []int{0, 0, 1}}
	// The output is the leftmost leaf.
	tr := api.Transducer{In: in, Out: out, States: 1, Axiom: sample.Side(2, sample.Call(0, 0)), Domain: sample.EverythingTopdown(in)}
	tr.Rules = [][][]api.Out{{{sample.Side(0)}, {sample.Side(1)}, {sample.Call(0, 0)}}}
	check := func(what string, a api.Automaton, want ...api.Tree) {
		t.Helper()
		image, e := pre.Image(tr, a)
		var got []api.Tree
		for _, u := range sample.Trees(out) {
			if sample.Accepts(image, u) {
				got = append(got, u)
			}
		}
		if e != api.OK || !slices.EqualFunc(got, want, func(x, y api.Tree) bool { return tree.Compare(x, y) == 0 }) {
			t.Errorf("%s: %v, error %d", what, got, e)
		}
	}
	ga, gb := sample.Tree(2, sample.Tree(0)), sample.Tree(2, sample.Tree(1))
	check("all trees", sample.Everything(in), ga, gb)
	// State 2 belongs to no tree, and state 3 is not accepted.
	a := api.Automaton{States: 4, Final: []int{1}, Rules: []api.Rule{
		sample.Rule(0, 0), sample.Rule(1, 3), sample.Rule(2, 1, 0, 0), sample.Rule(2, 1, 0, 2), sample.Rule(2, 1, 3, 2), sample.Rule(2, 3, 3, 0),
	}}
	check("no tree for a subtree", a, ga)
	a.Rules = append(a.Rules, sample.Rule(2, 2, 3, 3))
	check("a tree for the subtree", a, ga, gb)
	tr.Domain = api.Topdown{States: 2, Next: [][][]int{{{}, {}, {0, 1}}, {{}, nil, nil}}}
	check("Domain decides on the subtree", a, ga)
	tr.Axiom = sample.Side(2, sample.Side(1))
	check("no call in the axiom", a, gb)
	a.Final = []int{2}
	check("no call, no trees", a)
	check("no final states", api.Automaton{States: 1, Rules: a.Rules[:1]})
	check("nothing", api.Automaton{})
	tr.Domain.Start = -1
	check("an empty domain", sample.Everything(in))
}

// P16.3: linear transducers with an empty axiom of calls, and those that are not
// linear only in the axiom or in a rule that is never used.
func TestImageKind(t *testing.T) {
	two := sample.Side(1, sample.Call(0, 0), sample.Call(0, 0))
	for i := range 3 {
		tr := sample.CopyTransducer(sample.Exchange())
		switch i {
		case 0:
			tr.Axiom = two
		case 1:
			tr.Rules[0][1][0] = sample.Side(1, sample.Call(0, 1), sample.Call(0, 1))
		case 2:
			tr.States, tr.Rules = 2, append(tr.Rules, [][]api.Out{nil, {two}})
		}
		for _, a := range []api.Automaton{{}, sample.Everything(tr.In), sample.Full(tr.In, 100)} {
			image, e := pre.Image(tr, a)
			checkRefused(t, "not linear", image, e, api.ErrKind)
		}
	}
	// The image of the exchange is made of exchanged trees.
	left := api.Automaton{States: 2, Final: []int{1}, Rules: []api.Rule{sample.Rule(0, 0), sample.Rule(1, 1, 0, 0), sample.Rule(1, 1, 1, 0)}}
	right := api.Automaton{States: 2, Final: []int{1}, Rules: []api.Rule{sample.Rule(0, 0), sample.Rule(1, 1, 0, 0), sample.Rule(1, 1, 0, 1)}}
	image, e := pre.Image(sample.Exchange(), left)
	same, e2 := mini.Same(sample.Exchange().In, image, right)
	if e != api.OK || e2 != api.OK || !same {
		t.Errorf("%s, errors %d and %d", sample.Show(image), e, e2)
	}
}
