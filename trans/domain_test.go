package trans_test

import (
	"boskage/api"
	"boskage/sample"
	"boskage/topdown"
	"boskage/trans"
	"testing"
)

// mayBeFull reports whether Domain may return ErrFull.
func mayBeFull(tr api.Transducer) bool {
	return tr.States > 8 || tr.Domain.States<<tr.States > api.MaxStates
}

// P15.4, P15.8
func TestDomain(t *testing.T) {
	sample.ForTransducers(func(tr api.Transducer, trees []api.Tree) {
		d, e := trans.Domain(tr)
		if e != api.OK {
			t.Errorf("%s: error %d", sample.ShowTransducer(tr), e)
			return
		}
		minimal, e := topdown.Minimal(tr.In, d)
		if e != api.OK || !sample.EqualTopdowns(d, minimal) {
			t.Errorf("%s: %s is not minimal", sample.ShowTransducer(tr), sample.ShowTopdown(d))
		}
		for i := tr.States % 2; i < len(trees); i += 2 {
			_, defined := sample.Output(tr, trees[i])
			if sample.TopdownAccepts(d, trees[i]) != defined {
				t.Errorf("%s: %s is wrong for %v", sample.ShowTransducer(tr), sample.ShowTopdown(d), trees[i])
			}
		}
	})
}

// P15.4: larger transducers. Domain returns ErrFull only where it may.
func TestDomainLarger(t *testing.T) {
	var s sample.Source
	al := api.Alphabet{Ranks: []int{0, 1, 2, 3, 0, 2}}
	trees := sample.RandomTrees(al, 300, 12)
	for states := range 14 {
		for range 20 {
			tr := sample.Transducer(&s, al, al, states, 4, false)
			d, e := trans.Domain(tr)
			if e != api.OK {
				if e != api.ErrFull || !mayBeFull(tr) || d.States != 0 || d.Next != nil {
					t.Errorf("%d states: %s, error %d", states, sample.ShowTopdown(d), e)
				}
				continue
			}
			for _, x := range trees {
				_, e := trans.Size(tr, x)
				if sample.TopdownAccepts(d, x) != (e != api.ErrInput) {
					t.Errorf("%s: %s is wrong for %v", sample.ShowTransducer(tr), sample.ShowTopdown(d), x)
				}
			}
		}
	}
}

// P15.4: all sets of states occur, and make different states of the result.
func TestDomainAtTheLimit(t *testing.T) {
	tests := []struct {
		states, domain int
	}{
		{1, 1}, {1, 150}, {2, 75}, {3, 37}, {4, 18}, {5, 9}, {6, 4}, {7, 2}, {8, 1},
		{1, 151}, {2, 76}, {3, 38}, {5, 10}, {8, 2}, {9, 1}, {100, 1}, {300, 300},
	}
	for _, test := range tests {
		tr := sample.Duties(test.states, test.domain)
		if !trans.Valid(tr) {
			t.Fatalf("%d, %d: not valid", test.states, test.domain)
		}
		d, e := trans.Domain(tr)
		if mayBeFull(tr) {
			if e != api.ErrFull || d.States != 0 || d.Next != nil {
				t.Errorf("%d, %d: %d states, error %d", test.states, test.domain, d.States, e)
			}
			continue
		}
		if e != api.OK || d.States != test.domain<<test.states {
			t.Errorf("%d, %d: %d states, error %d", test.states, test.domain, d.States, e)
		}
	}
}

// P15.4: empty domains.
func TestDomainEmpty(t *testing.T) {
	empty := api.Topdown{Start: -1}
	check := func(what string, change func(tr *api.Transducer)) {
		t.Helper()
		tr := sample.CopyTransducer(sample.Exchange())
		change(&tr)
		d, e := trans.Domain(tr)
		if e != api.OK || !sample.EqualTopdowns(d, empty) {
			t.Errorf("%s: %s, error %d", what, sample.ShowTopdown(d), e)
		}
	}
	check("no start", func(tr *api.Transducer) { tr.Domain.Start = -1 })
	check("no states of Domain", func(tr *api.Transducer) { tr.Domain = empty })
	check("no rule for the leaf", func(tr *api.Transducer) { tr.Rules[0][0] = nil })
	check("no transition for the leaf", func(tr *api.Transducer) { tr.Domain.Next[0][0] = nil })
	check("no rules", func(tr *api.Transducer) { tr.Rules[0] = [][]api.Out{nil, {}} })
	check("no trees", func(tr *api.Transducer) {
		tr.In.Ranks, tr.Rules[0][0], tr.Domain.Next[0][0] = []int{2, 2}, nil, []int{0, 0}
	})
}

// P15.4: what is not called does not count, and what is called counts.
func TestDomainExamples(t *testing.T) {
	chains := api.Alphabet{Ranks: []int{0, 1}}
	tr := sample.Doubling()
	all := sample.EverythingTopdown(chains)
	check := func(what string, want api.Topdown) {
		t.Helper()
		d, e := trans.Domain(tr)
		if e != api.OK || !sample.EqualTopdowns(d, want) {
			t.Errorf("%s: %s, error %d", what, sample.ShowTopdown(d), e)
		}
	}
	check("doubling", all)
	// State 0 erases all but the first two nodes, state 1 wants a leaf.
	tr.Rules[0][1] = []api.Out{sample.Call(1, 0)}
	tr.Rules[1][0] = []api.Out{sample.Side(0)}
	two := api.Topdown{States: 2, Next: [][][]int{{{}, {1}}, {{}, nil}}}
	check("one or two nodes", two)
	tr.Axiom = sample.Side(1, sample.Call(1, 0), sample.Call(0, 0))
	check("one node", api.Topdown{States: 1, Next: [][][]int{{{}, nil}}})
	tr.Axiom = sample.Side(0)
	check("an axiom without calls", all)
	tr.Domain = two
	check("an axiom without calls, and Domain", two)
}
