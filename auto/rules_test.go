package auto_test

import (
	"boskage/api"
	"boskage/auto"
	"boskage/sample"
	"reflect"
	"slices"
	"strings"
	"testing"
)

// outcome is what one round of calls returns.
type outcome struct {
	values []any
}

// add keeps the result of a call. With an error, the result must be zero.
func (o *outcome) add(t *testing.T, what string, value any, e api.Errno) {
	t.Helper()
	v := reflect.ValueOf(value)
	zero := v.IsZero() || v.Kind() == reflect.Slice && v.Len() == 0
	if a, ok := value.(api.Automaton); ok {
		zero = sample.Equal(a, api.Automaton{})
	}
	if e != api.OK && !zero {
		t.Errorf("%s: %v beside error %d", what, value, e)
	}
	if e < api.OK || e > api.ErrState {
		t.Errorf("%s: there is no error %d", what, e)
	}
	o.values = append(o.values, value, e)
}

// callAll calls all functions with all combinations of odd arguments.
func callAll(t *testing.T) outcome {
	t.Helper()
	var o outcome
	automata := slices.Concat(sample.BadAutomata(small), sample.Automata(small)[:20], []api.Automaton{{}, example()})
	trees := append(sample.BadTrees(small), api.Tree{}, sample.Chain(300, 2, 1), sample.Tree(3, sample.Tree(0), sample.Tree(1)))
	texts := []string{"", "\n", "states 0\nfinal\n", "states 1\nfinal 0\n0 0\n", "states", "\xff\x00", strings.Repeat("\n", 1<<14), strings.Repeat(" ", 1<<14), strings.Repeat("0 ", 1<<20)}
	for _, al := range append(sample.BadAlphabets(), api.Alphabet{}, small, exampleAlphabet) {
		for _, a := range automata {
			callAutomaton(t, &o, al, a)
			for _, x := range trees {
				callTree(t, &o, al, a, x)
			}
		}
		for _, x := range trees {
			a, e := auto.Single(al, x)
			o.add(t, "Single", a, e)
		}
		for _, text := range texts {
			a, e := auto.Parse(al, text)
			o.add(t, "Parse", a, e)
		}
	}
	return o
}

func callAutomaton(t *testing.T, o *outcome, al api.Alphabet, a api.Automaton) {
	t.Helper()
	o.add(t, "Valid", auto.Valid(al, a), api.OK)
	ok, e := auto.Deterministic(al, a)
	o.add(t, "Deterministic", ok, e)
	ok, e = auto.Complete(al, a)
	o.add(t, "Complete", ok, e)
	l, e := auto.Reachable(al, a)
	o.add(t, "Reachable", l, e)
	l, e = auto.Useful(al, a)
	o.add(t, "Useful", l, e)
	b, e := auto.Trim(al, a)
	o.add(t, "Trim", b, e)
	text, e := auto.Print(al, a)
	o.add(t, "Print", text, e)
}

func callTree(t *testing.T, o *outcome, al api.Alphabet, a api.Automaton, x api.Tree) {
	t.Helper()
	l, e := auto.States(al, a, x)
	o.add(t, "States", l, e)
	ok, e := auto.Accepts(al, a, x)
	o.add(t, "Accepts", ok, e)
	l, e = auto.Run(al, a, x)
	o.add(t, "Run", l, e)
	for _, run := range [][]int{nil, {0}, {-1}, {0, 0, 0}, make([]int, 300), {1 << 62}} {
		ok, e = auto.Check(al, a, x, run)
		o.add(t, "Check", ok, e)
	}
}

// P1, P2: all arguments are accepted, and equal calls have equal results.
func TestAnyArguments(t *testing.T) {
	if !reflect.DeepEqual(callAll(t), callAll(t)) {
		t.Error("equal calls have different results")
	}
}

// P2: free results are the same in each call, also where there are many runs.
func TestRunIsTheSame(t *testing.T) {
	var s sample.Source
	for range 20 {
		a := sample.Automaton(&s, small, 5, 100)
		a.Final = []int{0, 1, 2, 3, 4}
		x := sample.RandomTree(&s, small, 30)
		first, e := auto.Run(small, a, x)
		for range 20 {
			again, e2 := auto.Run(small, a, x)
			if e != e2 || !slices.Equal(first, again) {
				t.Errorf("%v and %v, errors %d and %d", first, again, e, e2)
			}
		}
	}
}

// P2: results share no memory with arguments or other results, and arguments
// are not changed.
func TestNoSharing(t *testing.T) {
	for i, a := range sample.Automata(small) {
		before := sample.Copy(a)
		x := sample.Tree(3, sample.Tree(2, sample.Tree(0)), sample.Tree(1))
		trim1, _ := auto.Trim(small, a)
		trim2, _ := auto.Trim(small, a)
		single1, _ := auto.Single(small, x)
		single2, _ := auto.Single(small, x)
		text, _ := auto.Print(small, a)
		parsed1, _ := auto.Parse(small, text)
		parsed2, _ := auto.Parse(small, text)
		results := []api.Automaton{a, trim1, trim2, single1, single2, parsed1, parsed2}
		if sample.Share(results...) {
			t.Errorf("automaton %d: memory is shared", i)
		}
		run, e := auto.Run(small, a, x)
		if e == api.OK {
			kept := slices.Clone(run)
			auto.Check(small, a, x, run)
			if !slices.Equal(run, kept) {
				t.Errorf("automaton %d: the run was changed", i)
			}
		}
		auto.Accepts(small, a, x)
		auto.States(small, a, x)
		auto.Useful(small, a)
		if !sample.Equal(a, before) {
			t.Errorf("automaton %d was changed", i)
		}
		if !reflect.DeepEqual(x, sample.Tree(3, sample.Tree(2, sample.Tree(0)), sample.Tree(1))) {
			t.Errorf("automaton %d: the tree was changed", i)
		}
	}
}
