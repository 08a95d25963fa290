package trans_test

import (
	"boskage/api"
	"boskage/sample"
	"boskage/trans"
	"boskage/tree"
	"testing"
)

// P15.2, P15.3, P15.8
func TestRunAndSize(t *testing.T) {
	seen := map[api.Errno]int{}
	sample.ForTransducers(func(tr api.Transducer, trees []api.Tree) {
		for i := tr.States % 2; i < len(trees); i += 2 {
			want, defined := sample.Output(tr, trees[i])
			got, e := trans.Run(tr, trees[i])
			checkOutput(t, sample.ShowTransducer(tr), got, e, want, defined)
			seen[e]++
			size, e := trans.Size(tr, trees[i])
			if defined && (e != api.OK || size != tree.Size(want)) || !defined && (e != api.ErrInput || size != 0) {
				t.Errorf("%s: Size is %d, error %d, want %d", sample.ShowTransducer(tr), size, e, tree.Size(want))
			}
		}
	})
	if seen[api.OK] < 1000 || seen[api.ErrInput] < 1000 {
		t.Errorf("%v", seen)
	}
}

// P15.2, P15.9: the output of a state does not depend on Domain and the axiom.
func TestState(t *testing.T) {
	sample.ForTransducers(func(tr api.Transducer, trees []api.Tree) {
		calling := tr
		for i := tr.States; i < len(trees); i += 4 {
			for q := range tr.States {
				want, defined := sample.OutputOf(tr, q, trees[i])
				got, e := trans.State(tr, q, trees[i])
				checkOutput(t, sample.ShowTransducer(tr), got, e, want, defined)
				if !sample.TopdownAccepts(tr.Domain, trees[i]) {
					continue
				}
				calling.Axiom = sample.Call(q, 0)
				run, e2 := trans.Run(calling, trees[i])
				if e2 != e || !same(run, got) {
					t.Errorf("%s: State returns error %d, Run error %d", sample.ShowTransducer(tr), e, e2)
				}
			}
		}
	})
}

// P15.2: numbers that are not states, and trees that Domain does not accept.
func TestStateRange(t *testing.T) {
	tr := sample.CopyTransducer(sample.Doubling())
	tr.Domain = api.Topdown{Start: -1}
	x := sample.Chain(3, 1, 0)
	for _, q := range []int{-1, 2, 300, 1 << 40, -1 << 63} {
		got, e := trans.State(tr, q, x)
		checkRefused(t, "no state", got, e, api.ErrRange)
		got, e = trans.State(tr, q, sample.Tree(2))
		checkRefused(t, "no state and a bad tree", got, e, api.ErrArg)
	}
	got, e := trans.State(tr, 1, x)
	checkRefused(t, "a state without rules", got, e, api.ErrInput)
	got, e = trans.State(tr, 0, x)
	full := sample.Tree(1, sample.Tree(0), sample.Tree(0))
	checkTree(t, "State", got, e, sample.Tree(1, full, full))
	got, e = trans.Run(tr, x)
	checkRefused(t, "Run", got, e, api.ErrInput)
	none := api.Transducer{In: tr.In, Out: tr.Out, Domain: api.Topdown{Start: -1}, Axiom: sample.Side(0)}
	got, e = trans.State(none, 0, x)
	checkRefused(t, "no states", got, e, api.ErrRange)
}

// Examples 1 and 2 of the chapter.
func TestExamples(t *testing.T) {
	a := sample.Tree(0)
	f := func(x, y api.Tree) api.Tree { return sample.Tree(1, x, y) }
	got, e := trans.Run(sample.Exchange(), f(a, f(a, a)))
	checkTree(t, "exchange", got, e, f(f(a, a), a))
	want := a
	for n := range 70 {
		chain := sample.Chain(n+1, 1, 0)
		size, e := trans.Size(sample.Doubling(), chain)
		if n <= 61 && (size != 2<<n-1 || e != api.OK) || n > 61 && (size != 0 || e != api.ErrFull) {
			t.Errorf("%d symbols: Size is %d, error %d", n, size, e)
		}
		got, e := trans.Run(sample.Doubling(), chain)
		if n < 14 {
			checkTree(t, "doubling", got, e, want)
			want = f(want, want)
		} else {
			checkRefused(t, "doubling", got, e, api.ErrFull)
		}
	}
}

// P15.2, P15.3: outputs of exactly MaxResult and MaxCount nodes, and one more.
func TestSizesAtTheLimits(t *testing.T) {
	tr := sample.Sizing()
	for _, n := range []int{1, 2, 3, 299, 300, 301, api.MaxResult - 1, api.MaxResult, api.MaxResult + 1, 1 << 40, api.MaxCount - 1, api.MaxCount, api.MaxCount + 1, 1<<62 + 1<<61, 1<<63 - 1} {
		x := sample.Sized(n, 0)
		size, e := trans.Size(tr, x)
		if n <= api.MaxCount && (size != n || e != api.OK) || n > api.MaxCount && (size != 0 || e != api.ErrFull) {
			t.Errorf("%d nodes: Size is %d, error %d", n, size, e)
		}
		got, e := trans.Run(tr, x)
		if n <= api.MaxResult && (e != api.OK || tree.Size(got) != n) {
			t.Errorf("%d nodes: Run returns %d, error %d", n, tree.Size(got), e)
		}
		if n > api.MaxResult {
			checkRefused(t, "too many nodes", got, e, api.ErrFull)
		}
		// Without an output, the size of what is defined does not count.
		size, e = trans.Size(tr, sample.Sized(n, 1))
		got, e2 := trans.Run(tr, sample.Sized(n, 1))
		if size != 0 || e != api.ErrInput || !isZero(got) || e2 != api.ErrInput {
			t.Errorf("%d nodes, undefined: errors %d and %d", n, e, e2)
		}
	}
}

// P15.2, P15.3: a state without an output comes after states with outputs that
// are too large.
func TestUndefinedAfterLarge(t *testing.T) {
	tr := sample.CopyTransducer(sample.Sizing())
	tr.States = 2
	tr.Rules = append(tr.Rules, [][]api.Out{{sample.Side(0)}, nil, {sample.Call(1, 0)}, nil})
	for _, axiom := range []api.Out{
		sample.Side(2, sample.Call(0, 0), sample.Call(1, 0)),
		sample.Side(2, sample.Side(2, sample.Call(0, 0), sample.Call(0, 0)), sample.Side(1, sample.Call(1, 0))),
	} {
		tr.Axiom = axiom
		for _, n := range []int{15, 63, 200} {
			x := sample.Tree(0)
			for range n {
				x = sample.Tree(3, x)
			}
			size, e := trans.Size(tr, x)
			got, e2 := trans.Run(tr, x)
			if size != 0 || e != api.ErrInput || !isZero(got) || e2 != api.ErrInput {
				t.Errorf("%d symbols: errors %d and %d", n, e, e2)
			}
		}
	}
	tr.Axiom = sample.Side(2, sample.Call(1, 0), sample.Call(1, 0))
	if size, e := trans.Size(tr, sample.Chain(300, 2, 0)); size != 3 || e != api.OK {
		t.Errorf("a chain that is erased: Size is %d, error %d", size, e)
	}
}

// P15.2: Domain decides on subtrees that no call reaches.
func TestDomainCounts(t *testing.T) {
	tr := sample.CopyTransducer(sample.Exchange())
	tr.Rules[0][1][0] = sample.Call(0, 1)
	a := sample.Tree(0)
	deep := sample.Tree(1, sample.Tree(1, a, a), a)
	got, e := trans.Run(tr, deep)
	checkTree(t, "all trees", got, e, a)
	// Now all first subtrees are leaves.
	tr.Domain = api.Topdown{States: 2, Next: [][][]int{{{}, {1, 0}}, {{}, nil}}}
	got, e = trans.Run(tr, deep)
	checkRefused(t, "not accepted", got, e, api.ErrInput)
	if size, e := trans.Size(tr, deep); size != 0 || e != api.ErrInput {
		t.Errorf("Size is %d, error %d", size, e)
	}
	got, e = trans.Run(tr, sample.Tree(1, a, sample.Tree(1, a, a)))
	checkTree(t, "accepted", got, e, a)
	tr.Domain.Start = -1
	got, e = trans.Run(tr, a)
	checkRefused(t, "no start", got, e, api.ErrInput)
	tr.Axiom, tr.Domain.Start = sample.Side(1, a0(), a0()), 1
	got, e = trans.Run(tr, a)
	checkTree(t, "an axiom without calls", got, e, sample.Tree(1, a, a))
	got, e = trans.Run(tr, deep)
	checkRefused(t, "an axiom without calls", got, e, api.ErrInput)
}

// a0 is the leaf 0 of a right-hand side.
func a0() api.Out {
	return sample.Side(0)
}

// P15.2, P15.3: the largest trees and transducers.
func TestRunLarge(t *testing.T) {
	tr := sample.LargeTransducer()
	tr.Domain = sample.EverythingTopdown(tr.In)
	for _, x := range sample.RandomTrees(tr.In, 3, api.MaxSize) {
		size, e := trans.Size(tr, x)
		got, e2 := trans.Run(tr, x)
		if e == api.OK && e2 == api.OK && size != tree.Size(got) || (e2 == api.OK) != (e == api.OK && size <= api.MaxResult) {
			t.Errorf("Size is %d, error %d, Run returns %d nodes, error %d", size, e, tree.Size(got), e2)
		}
	}
	deep := sample.Chain(api.MaxSize, 1, 0)
	if _, e := trans.Size(tr, deep); e != api.ErrFull {
		t.Errorf("error %d", e)
	}
	got, e := trans.Run(tr, deep)
	checkRefused(t, "a chain", got, e, api.ErrFull)
}

// P15.11
func TestLinearOutputs(t *testing.T) {
	sample.ForTransducers(func(tr api.Transducer, trees []api.Tree) {
		if linear, _ := trans.Linear(tr); !linear {
			return
		}
		for i := 0; i < len(trees); i += 3 {
			size, e := trans.Size(tr, trees[i])
			if e != api.ErrInput && (e != api.OK || size > (tree.Size(trees[i])+1)*api.MaxOut) {
				t.Errorf("%s: Size is %d, error %d", sample.ShowTransducer(tr), size, e)
			}
		}
	})
	// Each node but the lowest yields 39 nodes, and the axiom and the lowest 40.
	chains := api.Alphabet{Ranks: []int{0, 1}}
	tr := api.Transducer{In: chains, Out: chains, States: 1, Domain: sample.EverythingTopdown(chains), Axiom: sample.ChainSide(api.MaxOut, 1, 1, sample.Call(0, 0))}
	tr.Rules = [][][]api.Out{{{sample.ChainSide(api.MaxOut, 1, 1, a0())}, {tr.Axiom}}}
	size, e := trans.Size(tr, sample.Chain(api.MaxSize, 1, 0))
	if size != 300*39+40 || e != api.OK {
		t.Errorf("Size is %d, error %d", size, e)
	}
	got, e := trans.Run(tr, sample.Chain(api.MaxSize, 1, 0))
	if tree.Size(got) != size || e != api.OK {
		t.Errorf("%d nodes, error %d", tree.Size(got), e)
	}
}

// P15.11: where all subtrees are kept, some state is called for each node, so that
// no output is left without the rules for one of the symbols in the tree.
func TestKeptSubtrees(t *testing.T) {
	checked := 0
	sample.ForTransducers(func(tr api.Transducer, trees []api.Tree) {
		if keeps, _ := trans.Keeps(tr); !keeps {
			return
		}
		for sym := range tr.In.Ranks {
			without := sample.CopyTransducer(tr)
			for _, row := range without.Rules {
				row[sym] = nil
			}
			for i := 0; i < len(trees); i += 3 {
				if _, e := trans.Size(tr, trees[i]); e != api.OK || !has(trees[i], sym) {
					continue
				}
				checked++
				if size, e := trans.Size(without, trees[i]); size != 0 || e != api.ErrInput {
					t.Errorf("%s: no rule for %d, Size is %d, error %d", sample.ShowTransducer(tr), sym, size, e)
				}
			}
		}
	})
	if checked < 50 {
		t.Errorf("%d checked", checked)
	}
}

// has reports whether some node of x has a symbol.
func has(x api.Tree, sym int) bool {
	is := x.Sym == sym
	for _, kid := range x.Kids {
		is = is || has(kid, sym)
	}
	return is
}
