package pre_test

import (
	"boskage/api"
	"boskage/auto"
	"boskage/deter"
	"boskage/rule"
	"boskage/sample"
	"boskage/trans"
	"slices"
	"testing"
)

// chains has a (rank 0) and g (rank 1).
var chains = api.Alphabet{Ranks: []int{0, 1}}

// mostNodes is the size of the outputs up to which tests use the definition.
const mostNodes = 1000

// forCases calls f with transducers, with automata over their output alphabets
// and over their input alphabets, and with all small trees over the latter whose
// output is not large.
func forCases(f func(tr api.Transducer, b, a api.Automaton, trees []api.Tree)) {
	number := 0
	sample.ForTransducers(func(tr api.Transducer, all []api.Tree) {
		number++
		outs, ins := sample.Automata(tr.Out), sample.Automata(tr.In)
		b, a := outs[(number*29)%len(outs)], ins[(number*13+5)%len(ins)]
		var trees []api.Tree
		for i := number % 3; i < len(all); i += 3 {
			if size, e := trans.Size(tr, all[i]); e == api.ErrInput || e == api.OK && size <= mostNodes {
				trees = append(trees, all[i])
			}
		}
		f(tr, b, a, trees)
	})
}

// show describes a transducer with an automaton.
func show(tr api.Transducer, a api.Automaton) string {
	return sample.ShowTransducer(tr) + " and " + sample.Show(a)
}

// fits reports whether there are at most MaxStates vectors, if there are so many
// choices for each state of a transducer, and whether all rules for them fit.
func fits(tr api.Transducer, choices int) bool {
	vectors := 1
	for range tr.States {
		vectors = min(vectors*choices, api.MaxStates+1)
	}
	for range tr.Domain.States {
		vectors = min(vectors*2, api.MaxStates+1)
	}
	return vectors <= api.MaxStates && rule.FullNumber(tr.In, vectors) <= api.MaxRules
}

// inverseFits reports whether Inverse must not return ErrFull.
func inverseFits(tr api.Transducer, b api.Automaton) bool {
	det, e := deter.Det(tr.Out, b)
	if e != api.OK {
		return false
	}
	whole, e := deter.Fill(tr.Out, det)
	return e == api.OK && fits(tr, whole.States+1)
}

// imageFits reports whether Image must not return ErrFull.
func imageFits(tr api.Transducer, a api.Automaton) bool {
	r := sample.SizeOfSide(tr.Axiom)
	for _, row := range tr.Rules {
		for _, sides := range row {
			for _, x := range sides {
				r += sample.SizeOfSide(x)
			}
		}
	}
	c, p := a.States*tr.Domain.States, len(a.Rules)*tr.Domain.States
	n := tr.States*c + (p+c)*r + 1
	return n*n <= api.MaxRules
}

// checkClassifier checks that a result is deterministic and complete and accepts
// the trees for which want returns true.
func checkClassifier(t *testing.T, what string, al api.Alphabet, a api.Automaton, e api.Errno, trees []api.Tree, want func(x api.Tree) bool) {
	t.Helper()
	deterministic, e1 := auto.Deterministic(al, a)
	complete, e2 := auto.Complete(al, a)
	if e != api.OK || !deterministic || !complete || e1 != api.OK || e2 != api.OK {
		t.Errorf("%s: %s, error %d, deterministic %t, complete %t", what, sample.Show(a), e, deterministic, complete)
		return
	}
	is := classifier(a)
	for _, x := range trees {
		if is(x) != want(x) {
			t.Errorf("%s: %s is wrong for %v", what, sample.Show(a), x)
			return
		}
	}
}

// classifier returns a function that reports whether a, which is deterministic and
// complete, accepts a tree. It reads the rules only once.
func classifier(a api.Automaton) func(x api.Tree) bool {
	to := map[rule.Head]int{}
	for _, r := range a.Rules {
		to[rule.HeadOf(r.Sym, r.From)] = r.To
	}
	var stateOf func(x api.Tree) int
	stateOf = func(x api.Tree) int {
		var from []int
		for _, kid := range x.Kids {
			from = append(from, stateOf(kid))
		}
		return to[rule.HeadOf(x.Sym, from)]
	}
	return func(x api.Tree) bool { return slices.Contains(a.Final, stateOf(x)) }
}

// checkFull checks that a result was refused as too large.
func checkFull(t *testing.T, what string, a api.Automaton, e api.Errno) {
	t.Helper()
	checkRefused(t, what, a, e, api.ErrFull)
}

// checkRefused checks a result that comes with an error.
func checkRefused(t *testing.T, what string, a api.Automaton, e, want api.Errno) {
	t.Helper()
	if e != want || !sample.Equal(a, api.Automaton{}) {
		t.Errorf("%s: %s, error %d, want error %d", what, sample.Show(a), e, want)
	}
}

// accepted reports whether the output of tr for x is defined and accepted by b,
// by the definition.
func accepted(tr api.Transducer, b api.Automaton, x api.Tree) bool {
	y, defined := sample.Output(tr, x)
	return defined && sample.Accepts(b, y)
}

// counters returns a transducer over chains and an automaton for which each vector
// belongs to some chain: there are (m + 1)^q 2^d of them. The automaton is
// deterministic and complete and has m states. The symbols of the input are a leaf
// and then, all of the rank 1, for each state of the transducer one that adds a
// node to its output and one for which it has no output, for each state of Domain
// one for which that has no transition, and one that turns Domain around.
func counters(m, q, d int) (api.Transducer, api.Automaton) {
	in := api.Alphabet{Ranks: append([]int{0}, slices.Repeat([]int{1}, 2*q+d+1)...)}
	out := chains
	if q > 1 {
		out = api.Alphabet{Ranks: []int{0, 1, 2}}
	}
	tr := api.Transducer{In: in, Out: out, States: q, Axiom: sample.Call(0, 0), Domain: api.Topdown{States: d}}
	for state := range q {
		row := [][]api.Out{{sample.Side(0)}}
		for range len(in.Ranks) - 1 {
			row = append(row, []api.Out{sample.Call(state, 0)})
		}
		row[1+state], row[1+q+state] = []api.Out{sample.Side(1, sample.Call(state, 0))}, nil
		tr.Rules = append(tr.Rules, row)
		if state > 0 {
			tr.Axiom = sample.Side(2, tr.Axiom, sample.Call(state, 0))
		}
	}
	for state := range d {
		row := [][]int{{}}
		for range len(in.Ranks) - 1 {
			row = append(row, []int{state})
		}
		row[1+2*q+state], row[1+2*q+d] = nil, []int{(state + 1) % d}
		tr.Domain.Next = append(tr.Domain.Next, row)
	}
	b := api.Automaton{States: m, Final: []int{m - 1}, Rules: []api.Rule{sample.Rule(0, 0)}}
	for state := range m {
		b.Rules = append(b.Rules, sample.Rule(1, (state+1)%m, state))
	}
	if q > 1 {
		for _, from := range sample.Lists(2, m) {
			b.Rules = append(b.Rules, sample.Rule(2, from[1], from...))
		}
	}
	return tr, b
}
