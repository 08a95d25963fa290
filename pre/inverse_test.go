package pre_test

import (
	"boskage/api"
	"boskage/boolean"
	"boskage/deter"
	"boskage/incl"
	"boskage/pre"
	"boskage/sample"
	"boskage/trans"
	"testing"
)

// P16.1, P16.6
func TestInverse(t *testing.T) {
	seen := map[bool]int{}
	forCases(func(tr api.Transducer, b, _ api.Automaton, trees []api.Tree) {
		got, e := pre.Inverse(tr, b)
		if e == api.ErrFull && !inverseFits(tr, b) {
			checkFull(t, show(tr, b), got, e)
			return
		}
		checkClassifier(t, show(tr, b), tr.In, got, e, trees, func(x api.Tree) bool {
			is, e := pre.Outputs(tr, b, x)
			want := accepted(tr, b, x)
			if is != want || e != api.OK && e != api.ErrInput {
				t.Errorf("%s: Outputs is %t, error %d for %v", show(tr, b), is, e, x)
			}
			seen[want]++
			return want
		})
	})
	if seen[true] < 1000 || seen[false] < 1000 {
		t.Errorf("%v", seen)
	}
}

// P16.2
func TestUndefined(t *testing.T) {
	forCases(func(tr api.Transducer, _, _ api.Automaton, trees []api.Tree) {
		got, e := pre.Undefined(tr)
		if e == api.ErrFull && !fits(tr, 2) {
			checkFull(t, sample.ShowTransducer(tr), got, e)
			return
		}
		checkClassifier(t, sample.ShowTransducer(tr), tr.In, got, e, trees, func(x api.Tree) bool {
			_, defined := sample.Output(tr, x)
			return !defined
		})
	})
}

// P16.1, P16.2: as many vectors as there can be, and more, all of which belong to
// trees.
func TestVectorsAtTheLimit(t *testing.T) {
	tests := []struct {
		m, q, d int
	}{
		{149, 1, 1}, {16, 2, 1}, {11, 2, 1}, {7, 2, 2}, {5, 2, 3}, {3, 3, 2}, {2, 4, 1}, {1, 1, 7}, {1, 4, 2}, {74, 1, 2},
		{150, 1, 1}, {12, 2, 1}, {8, 2, 2}, {4, 3, 2}, {299, 1, 1}, {2, 1, 8}, {3, 4, 2},
	}
	for _, test := range tests {
		tr, b := counters(test.m, test.q, test.d)
		trees := sample.RandomTrees(tr.In, 200, 20)
		got, e := pre.Inverse(tr, b)
		if e == api.ErrFull && !inverseFits(tr, b) {
			checkFull(t, "Inverse", got, e)
		} else {
			checkClassifier(t, "Inverse", tr.In, got, e, trees, func(x api.Tree) bool { return accepted(tr, b, x) })
		}
		got, e = pre.Undefined(tr)
		if e == api.ErrFull && !fits(tr, 2) {
			checkFull(t, "Undefined", got, e)
		} else {
			checkClassifier(t, "Undefined", tr.In, got, e, trees, func(x api.Tree) bool {
				_, defined := sample.Output(tr, x)
				return !defined
			})
		}
	}
	for _, size := range [][3]int{{149, 1, 1}, {11, 2, 1}, {3, 3, 2}, {1, 1, 7}} {
		if tr, b := counters(size[0], size[1], size[2]); !inverseFits(tr, b) {
			t.Errorf("%v does not fit", size)
		}
	}
	for _, size := range [][3]int{{150, 1, 1}, {12, 2, 1}, {2, 1, 8}} {
		tr, b := counters(size[0], size[1], size[2])
		if got, e := pre.Inverse(tr, b); e != api.ErrFull || inverseFits(tr, b) {
			t.Errorf("%v: %s, error %d", size, sample.Show(got), e)
		}
	}
}

// P16.1, P16.2: as many rules as there can be, for symbols of rank 2 and 3.
func TestRulesAtTheLimit(t *testing.T) {
	tests := []struct {
		rank, copies, m int
		full            bool
	}{
		{2, 1, 68, false}, {2, 1, 69, true}, {2, 4, 34, false}, {2, 4, 35, true}, {3, 1, 12, false}, {3, 1, 13, true}, {3, 7, 6, false}, {3, 7, 7, true},
	}
	for _, test := range tests {
		tr, b := counters(test.m, 1, 1)
		next := make([]int, test.rank)
		for i := range test.copies {
			tr.In.Ranks = append(tr.In.Ranks, test.rank)
			tr.Rules[0] = append(tr.Rules[0], []api.Out{sample.Side(1, sample.Call(0, i%test.rank))})
			tr.Domain.Next[0] = append(tr.Domain.Next[0], next)
		}
		if !trans.Valid(tr) || inverseFits(tr, b) == test.full {
			t.Fatalf("%v: valid %t", test, trans.Valid(tr))
		}
		got, e := pre.Inverse(tr, b)
		if test.full {
			checkFull(t, "Inverse", got, e)
			continue
		}
		checkClassifier(t, "Inverse", tr.In, got, e, sample.RandomTrees(tr.In, 100, 30), func(x api.Tree) bool { return accepted(tr, b, x) })
	}
}

// P16.1: the errors of Det and Fill.
func TestInverseFull(t *testing.T) {
	for _, over := range sample.Largest() {
		tr, e := trans.Identity(over.Al)
		if e != api.OK {
			t.Fatalf("error %d", e)
		}
		got, e := pre.Inverse(tr, over.A)
		if inverseFits(tr, over.A) || e != api.ErrFull && e != api.OK {
			t.Errorf("error %d", e)
		} else if e == api.OK {
			checkClassifier(t, "Inverse", over.Al, got, e, sample.RandomTrees(over.Al, 20, 10), func(x api.Tree) bool { return sample.Accepts(over.A, x) })
		}
	}
	al := api.Alphabet{Ranks: []int{0, 1, 1, 1, 1}}
	tr, _ := trans.Identity(al)
	got, e := pre.Inverse(tr, sample.AllSets(9))
	checkFull(t, "Det", got, e)
	// The automaton has MaxStates states, and none for the symbol of rank 3.
	al = api.Alphabet{Ranks: []int{0, 1, 3}}
	tr, _ = trans.Identity(al)
	got, e = pre.Inverse(tr, sample.Counter(api.MaxStates))
	checkFull(t, "Fill", got, e)
	tr.Axiom, tr.Rules = sample.Side(0), [][][]api.Out{{nil, nil, nil}}
	got, e = pre.Inverse(tr, sample.Counter(api.MaxStates))
	checkFull(t, "Fill, where the output is always the same", got, e)
}

// P16.1, P16.2: states that are never called, and states of Domain that are never
// reached, do no harm, though all of them are different for most trees.
func TestUselessStates(t *testing.T) {
	for _, kind := range []string{"states", "states of Domain", "both"} {
		tr, b := counters(20, 1, 1)
		for i := range 200 {
			row, next := make([][]api.Out, len(tr.In.Ranks)), make([][]int, len(tr.In.Ranks))
			row[0] = []api.Out{sample.ChainSide(1+i%30, 1, 1, sample.Side(0))}
			if i == 0 {
				next[0] = []int{}
			}
			for sym := 1; sym < len(row); sym++ {
				row[sym], next[sym] = []api.Out{sample.Side(1, sample.Call(1, 0))}, []int{1 + (i+1)%200}
			}
			if kind != "states of Domain" {
				tr.Rules = append(tr.Rules, row)
			}
			if kind != "states" {
				tr.Domain.Next = append(tr.Domain.Next, next)
			}
		}
		tr.States, tr.Domain.States = len(tr.Rules), len(tr.Domain.Next)
		trees := sample.RandomTrees(tr.In, 100, 50)
		got, e := pre.Inverse(tr, b)
		checkClassifier(t, kind, tr.In, got, e, trees, func(x api.Tree) bool { return accepted(tr, b, x) })
		got, e = pre.Undefined(tr)
		checkClassifier(t, kind, tr.In, got, e, trees, func(x api.Tree) bool {
			_, defined := sample.Output(tr, x)
			return !defined
		})
	}
}

// P16.1: automata with more states than a byte can number.
func TestManyStates(t *testing.T) {
	tr, _ := trans.Identity(chains)
	var trees []api.Tree
	for n := 1; n <= api.MaxSize; n++ {
		trees = append(trees, sample.Chain(n, 1, 0))
	}
	for _, m := range []int{254, 255, 256, 257, 280, 299} {
		_, b := counters(m, 1, 1)
		b.Final = []int{0, m / 3, m - 2}
		got, e := pre.Inverse(tr, b)
		checkClassifier(t, "Inverse", chains, got, e, trees, func(x api.Tree) bool { return sample.Accepts(b, x) })
	}
}

// Example 1 of the chapter.
func TestExample(t *testing.T) {
	// The states 0 to 2 stand for 1 to 3 nodes, and 3 for more.
	b := api.Automaton{States: 4, Final: []int{3}, Rules: []api.Rule{sample.Rule(0, 0)}}
	for _, from := range sample.Lists(2, 4) {
		b.Rules = append(b.Rules, sample.Rule(1, min(from[0]+from[1]+2, 3), from...))
	}
	got, e := pre.Inverse(sample.Doubling(), b)
	var trees []api.Tree
	for n := 1; n <= 12; n++ {
		trees = append(trees, sample.Chain(n, 1, 0))
	}
	checkClassifier(t, "Inverse", chains, got, e, trees, func(x api.Tree) bool { return len(x.Kids) == 1 && len(x.Kids[0].Kids) == 1 })
	got, e = pre.Undefined(sample.Doubling())
	checkClassifier(t, "Undefined", chains, got, e, trees, func(x api.Tree) bool { return false })
	if got.States != 1 {
		t.Errorf("Undefined has %d states", got.States)
	}
}

// P16.1, P16.2: no trees, and no outputs.
func TestNoTrees(t *testing.T) {
	tr, _ := trans.Identity(api.Alphabet{Ranks: []int{1, 3}})
	for _, al := range []api.Alphabet{{}, {Ranks: []int{2, 1}}} {
		none, _ := trans.Identity(al)
		for _, x := range []api.Transducer{tr, none} {
			got, e := pre.Inverse(x, api.Automaton{})
			checkClassifier(t, "Inverse", x.In, got, e, nil, nil)
			got, e = pre.Undefined(x)
			checkClassifier(t, "Undefined", x.In, got, e, nil, nil)
		}
	}
	// There are inputs, but no trees over the output alphabet.
	swap := sample.CopyTransducer(sample.Doubling())
	swap.Out.Ranks, swap.Rules[0][0] = []int{1, 2}, nil
	trees := sample.Trees(chains)
	got, e := pre.Inverse(swap, api.Automaton{States: 2, Final: []int{0, 1}, Rules: []api.Rule{sample.Rule(1, 0, 1, 1)}})
	checkClassifier(t, "Inverse", chains, got, e, trees, func(x api.Tree) bool { return false })
	got, e = pre.Undefined(swap)
	checkClassifier(t, "Undefined", chains, got, e, trees, func(x api.Tree) bool { return true })
}

// P16.8: the inverse image of an intersection.
func TestInverseOfMeet(t *testing.T) {
	compared := 0
	forCases(func(tr api.Transducer, b, _ api.Automaton, trees []api.Tree) {
		others := sample.Automata(tr.Out)
		c := others[(compared*7+3)%len(others)]
		both, e := boolean.Meet(tr.Out, b, c)
		one, e1 := pre.Inverse(tr, b)
		two, e2 := pre.Inverse(tr, c)
		got, e3 := pre.Inverse(tr, both)
		if e != api.OK || e1 != api.OK || e2 != api.OK || e3 != api.OK {
			return
		}
		want, e := boolean.Meet(tr.In, one, two)
		if e != api.OK {
			return
		}
		compared++
		is, x, e := incl.Equal(tr.In, got, want)
		if !is && e != api.ErrFull {
			t.Errorf("%s and %s: wrong for %v, error %d", show(tr, b), sample.Show(c), x, e)
		}
	})
	if compared < 500 {
		t.Errorf("%d compared", compared)
	}
}

// P16.8: each tree is in the inverse image, in that of the complement, or has no
// output.
func TestComplement(t *testing.T) {
	compared := 0
	forCases(func(tr api.Transducer, b, _ api.Automaton, trees []api.Tree) {
		rest, e := deter.Complement(tr.Out, b)
		one, e1 := pre.Inverse(tr, b)
		two, e2 := pre.Inverse(tr, rest)
		three, e3 := pre.Undefined(tr)
		if e != api.OK || e1 != api.OK || e2 != api.OK || e3 != api.OK {
			return
		}
		compared++
		sets := []func(x api.Tree) bool{classifier(one), classifier(two), classifier(three)}
		for _, x := range trees {
			number := 0
			for _, is := range sets {
				if is(x) {
					number++
				}
			}
			if number != 1 {
				t.Errorf("%s: %v is in %d of three", show(tr, b), x, number)
			}
		}
		for _, pair := range [][2]api.Automaton{{one, two}, {two, three}, {three, one}} {
			if is, x, e := incl.Disjoint(tr.In, pair[0], pair[1]); !is && e == api.OK {
				t.Errorf("%s: %v is in two of three", show(tr, b), x)
			}
		}
	})
	if compared < 500 {
		t.Errorf("%d compared", compared)
	}
}
