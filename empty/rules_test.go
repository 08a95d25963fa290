package empty_test

import (
	"boskage/api"
	"boskage/empty"
	"boskage/sample"
	"boskage/tree"
	"reflect"
	"slices"
	"testing"
)

// outcome is what one round of calls returns.
type outcome struct {
	values []any
}

// add keeps the result of a call. With an error, the result must be zero.
func (o *outcome) add(t *testing.T, what string, value any, e api.Errno) {
	t.Helper()
	v := reflect.ValueOf(value)
	zero := v.IsZero() || v.Kind() == reflect.Slice && v.Len() == 0
	if e != api.OK && !zero {
		t.Errorf("%s: %v beside error %d", what, value, e)
	}
	if e < api.OK || e > api.ErrState {
		t.Errorf("%s: there is no error %d", what, e)
	}
	o.values = append(o.values, value, e)
}

// callAll calls all functions.
func callAll(t *testing.T, al api.Alphabet, a api.Automaton) outcome {
	t.Helper()
	var o outcome
	is, e := empty.Empty(al, a)
	o.add(t, "Empty", is, e)
	sizes, e := empty.Sizes(al, a)
	o.add(t, "Sizes", sizes, e)
	x, e := empty.Least(al, a)
	o.add(t, "Least", x, e)
	for _, s := range []int{-1, 0, 1, 299, 1 << 62} {
		x, e = empty.LeastOf(al, a, s)
		o.add(t, "LeastOf", x, e)
	}
	is, e = empty.Finite(al, a)
	o.add(t, "Finite", is, e)
	lowest, greatest, e := empty.Depths(al, a)
	o.add(t, "Depths", [2]int{lowest, greatest}, e)
	longest, e := empty.Longest(al, a)
	o.add(t, "Longest", longest, e)
	return o
}

// P1, P2: all arguments are accepted, and equal calls have equal results.
func TestAnyArguments(t *testing.T) {
	automata := slices.Concat(sample.BadAutomata(all), sample.Automata(all), []api.Automaton{{}, example(), sample.Power(3, 300), sample.Power(1, 300), sample.Counter(300), sample.AllSets(300), sample.Full(all, 26)})
	for _, al := range append(sample.BadAlphabets(), api.Alphabet{}, all, exampleAlphabet, api.Alphabet{Ranks: []int{0, 1, 1, 1, 1}}) {
		for _, a := range automata {
			if !reflect.DeepEqual(callAll(t, al, a), callAll(t, al, a)) {
				t.Errorf("%s: equal calls have different results", sample.Show(a))
			}
		}
	}
}

// P2: results share no memory with each other, no two parts of a tree share
// memory, and arguments are not changed.
func TestNoSharing(t *testing.T) {
	for i, a := range append(sample.Automata(all), sample.Power(2, 8), sample.Power(3, 5)) {
		before := sample.Copy(a)
		var trees []api.Tree
		for range 2 {
			x, _ := empty.Least(all, a)
			y, _ := empty.LeastOf(all, a, 0)
			trees = append(trees, x, y)
		}
		if sample.ShareTrees(trees...) {
			t.Errorf("automaton %d: memory is shared", i)
		}
		callAll(t, all, a)
		if !sample.Equal(a, before) {
			t.Errorf("automaton %d was changed", i)
		}
	}
}

// P10: least trees are printed and parsed back.
func TestRoundTrip(t *testing.T) {
	names := []string{"a", "g", "f", "h"}
	for _, a := range append(sample.Automata(all), sample.Power(1, 300), sample.Power(2, 8), sample.Power(3, 5)) {
		x, e := empty.Least(all, a)
		if e == api.ErrNone {
			continue
		}
		text, e1 := tree.Print(all, names, x)
		back, e2 := tree.Parse(all, names, text)
		if e != api.OK || e1 != api.OK || e2 != api.OK || tree.Compare(x, back) != 0 {
			t.Errorf("%s: errors %d, %d and %d", text, e, e1, e2)
		}
	}
}
