package auto_test

import (
	"boskage/api"
	"boskage/auto"
	"boskage/sample"
	"boskage/tree"
	"slices"
	"testing"
)

// P3.2: the chapter's example.
func TestExample(t *testing.T) {
	leaf := sample.Tree(0)
	two := sample.Tree(1, leaf, leaf)
	tests := []struct {
		x        api.Tree
		states   []int
		accepted bool
	}{
		{leaf, []int{0}, false},
		{two, []int{1}, true},
		{sample.Tree(1, leaf, two), nil, false},
		{sample.Tree(1, two, two), []int{0}, false},
		{sample.Tree(1, leaf, sample.Tree(1, two, two)), []int{1}, true},
	}
	for _, test := range tests {
		states, e := auto.States(exampleAlphabet, example(), test.x)
		if e != api.OK || !slices.Equal(states, test.states) {
			t.Errorf("%v: states %v, error %d", test.x, states, e)
		}
		accepted, e := auto.Accepts(exampleAlphabet, example(), test.x)
		if e != api.OK || accepted != test.accepted {
			t.Errorf("%v: accepted is %t, error %d", test.x, accepted, e)
		}
	}
}

// P3.2, P3.3, P3.8: all small trees.
func TestStatesAcceptsAndRun(t *testing.T) {
	for _, al := range sample.Alphabets() {
		trees := sample.Trees(al)
		for i, a := range sample.Automata(al) {
			for j := i % 3; j < len(trees); j += 3 {
				checkRuns(t, al, a, trees[j])
			}
		}
	}
}

// checkRuns checks States, Accepts, Run and Check for a tree.
func checkRuns(t *testing.T, al api.Alphabet, a api.Automaton, x api.Tree) {
	t.Helper()
	states, e := auto.States(al, a, x)
	if e != api.OK || !slices.Equal(states, sample.States(a, x)) {
		t.Errorf("%v, %v: states %v, error %d", sample.Show(a), x, states, e)
	}
	accepted, e := auto.Accepts(al, a, x)
	if e != api.OK || accepted != sample.Accepts(a, x) {
		t.Errorf("%v, %v: accepted is %t, error %d", sample.Show(a), x, accepted, e)
	}
	run, e := auto.Run(al, a, x)
	if !accepted {
		if e != api.ErrInput || len(run) > 0 {
			t.Errorf("%v, %v: run %v, error %d", sample.Show(a), x, run, e)
		}
		return
	}
	if e != api.OK || !isRun(a, x, run) {
		t.Errorf("%v, %v: run %v, error %d", sample.Show(a), x, run, e)
	}
	if ok, e := auto.Check(al, a, x, run); !ok || e != api.OK {
		t.Errorf("%v, %v: run %v is refused, error %d", sample.Show(a), x, run, e)
	}
}

// P3.2, P3.3: trees of up to 300 nodes.
func TestRunsOnLargeTrees(t *testing.T) {
	var s sample.Source
	trees := []api.Tree{sample.Chain(api.MaxSize, 2, 1), sample.Tree(3, sample.Chain(150, 2, 0), sample.Chain(149, 2, 1))}
	for range 20 {
		trees = append(trees, sample.RandomTree(&s, small, api.MaxSize))
	}
	for states := 1; states <= 64; states *= 2 {
		a := sample.Automaton(&s, small, states, min(10*states*states, api.MaxRules))
		for _, x := range trees {
			checkRuns(t, small, a, x)
		}
	}
}

// P3.2, P3.3: all numbers of states up to 300 are told apart.
func TestRunWithManyStates(t *testing.T) {
	al := api.Alphabet{Ranks: []int{0, 1}}
	a := api.Automaton{States: api.MaxStates, Final: []int{299}, Rules: []api.Rule{sample.Rule(0, 0)}}
	for i := range 299 {
		a.Rules = append(a.Rules, sample.Rule(1, i+1, i))
	}
	for n := 1; n <= api.MaxSize; n++ {
		x := sample.Chain(n, 1, 0)
		states, e := auto.States(al, a, x)
		if e != api.OK || !slices.Equal(states, []int{n - 1}) {
			t.Errorf("%d nodes: states %v, error %d", n, states, e)
		}
		accepted, e := auto.Accepts(al, a, x)
		if e != api.OK || accepted != (n == 300) {
			t.Errorf("%d nodes: accepted is %t, error %d", n, accepted, e)
		}
	}
	run, e := auto.Run(al, a, sample.Chain(300, 1, 0))
	for i, state := range run {
		if state != 299-i {
			t.Errorf("run: %d at position %d", state, i)
		}
	}
	if e != api.OK || len(run) != 300 {
		t.Errorf("run of %d states, error %d", len(run), e)
	}
	for i := range a.Rules {
		a.Rules = append(a.Rules, sample.Rule(0, a.Rules[i].To))
	}
	states, e := auto.States(al, a, sample.Tree(0))
	if e != api.OK || len(states) != 300 || !slices.IsSorted(states) {
		t.Errorf("%d states, error %d", len(states), e)
	}
}

// P3.3: all lists of the right length are checked.
func TestCheckEverything(t *testing.T) {
	for _, al := range sample.Alphabets() {
		trees := sample.Trees(al)
		for i, a := range sample.Automata(al) {
			if a.States > 3 {
				continue
			}
			for j, x := range trees {
				if n := tree.Size(x); n <= 4 && (i+j)%5 == 0 || n == 5 && (i+j)%29 == 0 {
					checkLists(t, al, a, x)
				}
			}
		}
	}
}

// checkLists asks Check for lists of states, and of numbers that are not.
func checkLists(t *testing.T, al api.Alphabet, a api.Automaton, x api.Tree) {
	t.Helper()
	found := false
	for _, run := range sample.Lists(tree.Size(x), a.States+2) {
		for i := range run {
			run[i]--
		}
		ok, e := auto.Check(al, a, x, run)
		if e != api.OK || ok != isRun(a, x, run) {
			t.Errorf("%v, %v: Check of %v is %t, error %d", sample.Show(a), x, run, ok, e)
		}
		found = found || ok
	}
	if found != sample.Accepts(a, x) {
		t.Errorf("%v, %v: a run is found: %t", sample.Show(a), x, found)
	}
}

// P3.3: other lengths and numbers far off.
func TestCheckOddRuns(t *testing.T) {
	leaf := sample.Tree(0)
	x := sample.Tree(1, leaf, leaf)
	runs := [][]int{nil, {}, {1}, {1, 0}, {1, 0, 0, 0}, {1, 0, 0, 1}, {0, 0, 1}, {1, 0, 2}, {1, 0, -1}, {1, 0, 1 << 62}, {-1 << 63, 0, 0}, {1, 1, 1}, {1, 1 << 16, 0}, make([]int, 1<<16)}
	for _, run := range runs {
		if ok, e := auto.Check(exampleAlphabet, example(), x, run); ok || e != api.OK {
			t.Errorf("%v: %t, error %d", run, ok, e)
		}
	}
	if ok, e := auto.Check(exampleAlphabet, example(), x, []int{1, 0, 0}); !ok || e != api.OK {
		t.Errorf("the run: %t, error %d", ok, e)
	}
}

// P3.2, P3.3: arguments that are not valid, which comes before ErrInput and
// before the answer false.
func TestRunErrors(t *testing.T) {
	check := func(al api.Alphabet, a api.Automaton, x api.Tree) {
		t.Helper()
		states, e1 := auto.States(al, a, x)
		accepted, e2 := auto.Accepts(al, a, x)
		run, e3 := auto.Run(al, a, x)
		ok, e4 := auto.Check(al, a, x, nil)
		ok0, e5 := auto.Check(al, a, x, []int{0})
		if len(states) > 0 || accepted || len(run) > 0 || ok || ok0 {
			t.Errorf("%v: results beside errors", al)
		}
		for i, e := range []api.Errno{e1, e2, e3, e4, e5} {
			if e != api.ErrArg {
				t.Errorf("%v: function %d: error %d", al, i, e)
			}
		}
	}
	sample.BadArguments(func(al api.Alphabet, a api.Automaton) {
		check(al, a, sample.Tree(0))
		check(al, a, sample.Tree(-1))
	})
	for _, al := range sample.Alphabets() {
		for _, x := range sample.BadTrees(al) {
			check(al, api.Automaton{}, x)
			check(al, api.Automaton{States: 1, Final: []int{0}}, x)
		}
	}
}
