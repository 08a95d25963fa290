package trans_test

import (
	"boskage/api"
	"boskage/sample"
	"boskage/trans"
	"slices"
	"testing"
)

// P15.1
func TestValid(t *testing.T) {
	sample.ForTransducers(func(tr api.Transducer, _ []api.Tree) {
		if !trans.Valid(tr) {
			t.Errorf("%s is not valid", sample.ShowTransducer(tr))
		}
	})
	for i, tr := range sample.BadTransducers() {
		if trans.Valid(tr) {
			t.Errorf("bad transducer %d is valid", i)
		}
	}
	nothing := api.Transducer{Domain: api.Topdown{Start: -1}, Out: api.Alphabet{Ranks: []int{0}}}
	if !trans.Valid(nothing) {
		t.Error("no states: not valid")
	}
	nothing.Axiom = sample.Call(0, 0)
	if trans.Valid(nothing) {
		t.Error("a call without states: valid")
	}
}

// P15.1: as many states, symbols, nodes and transitions as there can be.
func TestValidAtTheLimits(t *testing.T) {
	tr := sample.LargeTransducer()
	if !trans.Valid(tr) {
		t.Fatal("not valid")
	}
	changes := []func(tr *api.Transducer){
		func(tr *api.Transducer) { tr.Rules[299][11][0] = sample.Side(1, tr.Rules[299][11][0]) },
		func(tr *api.Transducer) { tr.Rules[299][11] = append(tr.Rules[299][11], sample.Side(0)) },
		func(tr *api.Transducer) { tr.Rules[299][11][0] = sample.Side(1, sample.Call(300, 0)) },
		func(tr *api.Transducer) { tr.Rules[299][11][0] = sample.Side(1, sample.Call(0, 3)) },
		func(tr *api.Transducer) { tr.Rules[299][10][0] = sample.Side(1, sample.Call(0, 2)) },
		func(tr *api.Transducer) { tr.Axiom = sample.Side(1, tr.Axiom) },
		func(tr *api.Transducer) { tr.Axiom = sample.Call(0, 1) },
		func(tr *api.Transducer) { tr.Domain.Next[299][11] = []int{0, 0} },
		func(tr *api.Transducer) { tr.Rules = append(tr.Rules, tr.Rules[0]) },
		func(tr *api.Transducer) { tr.States, tr.Rules = 301, append(tr.Rules, tr.Rules[0]) },
	}
	for i, change := range changes {
		changed := sample.CopyTransducer(tr)
		change(&changed)
		if trans.Valid(changed) {
			t.Errorf("change %d: valid", i)
		}
	}
	tr.Rules[299][11][0] = sample.Call(299, 2)
	tr.Rules[0][0] = nil
	tr.Rules[0][1] = []api.Out{}
	if !trans.Valid(tr) {
		t.Error("not valid after changes")
	}
}

// P15.1
func TestValidOut(t *testing.T) {
	out := api.Alphabet{Ranks: []int{0, 1, 2, 3}}
	a := sample.Side(0)
	good := []struct {
		states, kids int
		x            api.Out
	}{
		{0, 0, a}, {-1, -1, a}, {-1 << 63, 1 << 62, sample.Side(1, a)}, {1, 1, sample.Call(0, 0)},
		{300, 3, sample.Call(299, 2)}, {1000, 1 << 40, sample.Call(999, 1<<39)},
		{2, 2, sample.Side(2, sample.Call(1, 1), sample.Side(3, a, sample.Call(0, 0), sample.Call(1, 1)))},
		{1, 1, sample.ChainSide(api.MaxOut, 1, 1, sample.Call(0, 0))},
		{0, 0, sample.ChainSide(api.MaxOut, 3, 3, a)},
		{0, 0, api.Out{Kids: []api.Out{}}},
		{1, 1, api.Out{Call: true, Kids: []api.Out{}}},
	}
	for i, test := range good {
		if !trans.ValidOut(out, test.states, test.kids, test.x) {
			t.Errorf("good right-hand side %d is not valid", i)
		}
	}
	if trans.ValidOut(out, 1, 1, sample.ChainSide(api.MaxOut+1, 1, 1, sample.Call(0, 0))) {
		t.Error("a node too many: valid")
	}
	for _, al := range sample.Alphabets() {
		for _, states := range []int{0, 1, 3} {
			for kids := range 4 {
				for i, x := range sample.BadSides(al, states, kids) {
					if trans.ValidOut(al, states, kids, x) {
						t.Errorf("%v: bad right-hand side %d is valid for %d states and %d subtrees", al, i, states, kids)
					}
				}
			}
		}
	}
	for _, al := range sample.BadAlphabets() {
		if trans.ValidOut(al, 1, 1, a) || trans.ValidOut(al, 1, 1, sample.Call(0, 0)) {
			t.Errorf("%v: valid", al)
		}
	}
	for _, states := range []int{0, -1, -1 << 63} {
		if trans.ValidOut(out, states, 1, sample.Call(0, 0)) || trans.ValidOut(out, 1, states, sample.Call(0, 0)) {
			t.Errorf("%d states or subtrees: a call is valid", states)
		}
	}
	if trans.ValidOut(api.Alphabet{}, 1, 1, a) || !trans.ValidOut(api.Alphabet{}, 1, 1, sample.Call(0, 0)) {
		t.Error("an alphabet without symbols")
	}
}

// P15.5
func TestLinearKeeps(t *testing.T) {
	seen := map[[2]bool]int{}
	sample.ForTransducers(func(tr api.Transducer, _ []api.Tree) {
		linear, keeps := true, true
		for _, numbers := range numbersOfCalls(tr) {
			for _, number := range numbers {
				linear = linear && number <= 1
				keeps = keeps && number >= 1
			}
		}
		is, e := trans.Linear(tr)
		if is != linear || e != api.OK {
			t.Errorf("%s: Linear is %t, error %d", sample.ShowTransducer(tr), is, e)
		}
		is, e = trans.Keeps(tr)
		if is != keeps || e != api.OK {
			t.Errorf("%s: Keeps is %t, error %d", sample.ShowTransducer(tr), is, e)
		}
		seen[[2]bool{linear, keeps}]++
	})
	if len(seen) < 4 {
		t.Errorf("%v", seen)
	}
}

// P15.5: where only one right-hand side decides.
func TestLinearKeepsEdges(t *testing.T) {
	check := func(what string, change func(tr *api.Transducer), linear, keeps bool) {
		t.Helper()
		tr := sample.CopyTransducer(sample.Exchange())
		change(&tr)
		l, e1 := trans.Linear(tr)
		k, e2 := trans.Keeps(tr)
		if l != linear || k != keeps || e1 != api.OK || e2 != api.OK {
			t.Errorf("%s: Linear is %t, error %d, Keeps is %t, error %d", what, l, e1, k, e2)
		}
	}
	two := sample.Side(1, sample.Call(0, 0), sample.Call(0, 0))
	check("the exchange", func(tr *api.Transducer) {}, true, true)
	check("two calls in the axiom", func(tr *api.Transducer) { tr.Axiom = two }, false, true)
	check("no call in the axiom", func(tr *api.Transducer) { tr.Axiom = sample.Side(0) }, true, false)
	check("no call in the axiom, and two for a subtree", func(tr *api.Transducer) { tr.Axiom, tr.Rules[0][1][0] = sample.Side(0), two }, false, false)
	check("two calls for the first subtree", func(tr *api.Transducer) { tr.Rules[0][1][0] = two }, false, false)
	check("one call for the second subtree", func(tr *api.Transducer) { tr.Rules[0][1][0] = sample.Call(0, 1) }, true, false)
	check("three calls", func(tr *api.Transducer) { tr.Rules[0][1][0] = sample.Side(1, sample.Call(0, 1), two) }, false, true)
	check("two calls of different states", func(tr *api.Transducer) {
		tr.States, tr.Rules = 2, append(tr.Rules, [][]api.Out{nil, nil})
		tr.Rules[0][1][0] = sample.Side(1, sample.Call(0, 1), sample.Call(1, 1))
	}, false, false)
	check("no rules", func(tr *api.Transducer) { tr.Rules[0][0], tr.Rules[0][1] = nil, nil }, true, true)
	check("a rule of a state that is not called", func(tr *api.Transducer) {
		tr.States, tr.Rules = 2, append(tr.Rules, [][]api.Out{nil, {two}})
	}, false, false)
}

// P15.6
func TestIdentity(t *testing.T) {
	for _, al := range sample.Alphabets() {
		want := api.Transducer{In: al, Out: al, States: 1, Domain: sample.EverythingTopdown(al), Axiom: sample.Call(0, 0)}
		row := make([][]api.Out, len(al.Ranks))
		for sym, rank := range al.Ranks {
			calls := []api.Out{sample.Call(0, 0), sample.Call(0, 1), sample.Call(0, 2)}
			row[sym] = []api.Out{sample.Side(sym, calls[:rank]...)}
		}
		want.Rules = [][][]api.Out{row}
		got, e := trans.Identity(al)
		checkTransducer(t, "Identity", got, e, want)
		for _, x := range sample.Trees(al) {
			y, e := trans.Run(got, x)
			checkTree(t, "Run of Identity", y, e, x)
		}
		linear, _ := trans.Linear(got)
		keeps, _ := trans.Keeps(got)
		if !trans.Valid(got) || !linear || !keeps {
			t.Errorf("%v: Linear is %t, Keeps is %t", al, linear, keeps)
		}
	}
	for _, al := range sample.BadAlphabets() {
		got, e := trans.Identity(al)
		if e != api.ErrArg || !sample.EqualTransducers(got, api.Transducer{}) {
			t.Errorf("%v: %s, error %d", al, sample.ShowTransducer(got), e)
		}
	}
	full := api.Alphabet{Ranks: slices.Repeat([]int{0, 1, 2, 3}, 3)}
	got, e := trans.Identity(full)
	if e != api.OK || !trans.Valid(got) {
		t.Errorf("MaxSymbols: error %d", e)
	}
}
