package trans_test

import (
	"boskage/api"
	"boskage/sample"
	"boskage/tree"
	"testing"
)

// isZero reports whether x is the zero tree.
func isZero(x api.Tree) bool {
	return x.Sym == 0 && len(x.Kids) == 0
}

// same reports whether two trees of any size are equal.
func same(x, y api.Tree) bool {
	return tree.Compare(x, y) == 0
}

// checkTree checks a tree that is the result of a call.
func checkTree(t *testing.T, what string, got api.Tree, e api.Errno, want api.Tree) {
	t.Helper()
	if e != api.OK || !same(got, want) {
		t.Errorf("%s: error %d, %d nodes, want %d", what, e, tree.Size(got), tree.Size(want))
	}
}

// checkRefused checks that a call returned an error and no tree.
func checkRefused(t *testing.T, what string, got api.Tree, e, want api.Errno) {
	t.Helper()
	if e != want || !isZero(got) {
		t.Errorf("%s: error %d, %d nodes, want error %d", what, e, tree.Size(got), want)
	}
}

// checkOutput checks an output and its size against the definition.
func checkOutput(t *testing.T, what string, got api.Tree, e api.Errno, want api.Tree, defined bool) {
	t.Helper()
	switch size := tree.Size(want); {
	case !defined:
		checkRefused(t, what, got, e, api.ErrInput)
	case size > api.MaxResult:
		checkRefused(t, what, got, e, api.ErrFull)
	default:
		checkTree(t, what, got, e, want)
	}
}

// checkTransducer checks a transducer that is the result of a call.
func checkTransducer(t *testing.T, what string, got api.Transducer, e api.Errno, want api.Transducer) {
	t.Helper()
	if e != api.OK || !sample.EqualTransducers(got, want) {
		t.Errorf("%s: %s, error %d, want %s", what, sample.ShowTransducer(got), e, sample.ShowTransducer(want))
	}
}

// forEach calls f with the nodes of a right-hand side.
func forEach(x api.Out, f func(x api.Out)) {
	f(x)
	for _, kid := range x.Kids {
		forEach(kid, f)
	}
}

// numbersOfCalls returns for the axiom, and then for each right-hand side, the
// number of calls for each subtree.
func numbersOfCalls(tr api.Transducer) [][]int {
	var all [][]int
	add := func(x api.Out, kids int) {
		numbers := make([]int, kids)
		forEach(x, func(x api.Out) {
			if x.Call {
				numbers[x.Kid]++
			}
		})
		all = append(all, numbers)
	}
	add(tr.Axiom, 1)
	for _, row := range tr.Rules {
		for sym, sides := range row {
			for _, x := range sides {
				add(x, tr.In.Ranks[sym])
			}
		}
	}
	return all
}
