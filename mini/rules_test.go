package mini_test

import (
	"boskage/api"
	"boskage/auto"
	"boskage/mini"
	"boskage/sample"
	"reflect"
	"slices"
	"testing"
)

// small has a (rank 0), b (rank 0), g (rank 1) and f (rank 2).
var small = api.Alphabet{Ranks: []int{0, 0, 1, 2}}

// P7.1 to P7.3: all refuse alphabets and automata that are not valid.
func TestBadArguments(t *testing.T) {
	sample.BadArguments(func(al api.Alphabet, a api.Automaton) {
		b, e := mini.Minimal(al, a)
		checkRefused(t, "Minimal", b, e, api.ErrArg)
		for _, pair := range [][2]api.Automaton{{a, {}}, {{}, a}, {a, a}} {
			if same, e := mini.Same(al, pair[0], pair[1]); same || e != api.ErrArg {
				t.Errorf("Same: %t, error %d", same, e)
			}
		}
		if class, e := mini.Class(al, a, sample.Tree(0)); class != 0 || e != api.ErrArg {
			t.Errorf("Class: %d, error %d", class, e)
		}
	})
}

// P7.3: Class refuses trees that are not valid.
func TestBadTrees(t *testing.T) {
	for _, al := range sample.Alphabets() {
		for _, x := range sample.BadTrees(al) {
			for _, a := range []api.Automaton{{}, sample.Everything(al)} {
				if class, e := mini.Class(al, a, x); class != 0 || e != api.ErrArg {
					t.Errorf("Class: %d, error %d", class, e)
				}
			}
		}
	}
}

// P7.2, P7.3: ErrArg comes before ErrFull.
func TestBadArgumentsThatAreFull(t *testing.T) {
	al := api.Alphabet{Ranks: []int{0, 1, 1, 1, 1}}
	large, bad := sample.AllSets(300), api.Automaton{States: 300, Final: []int{300}}
	for _, pair := range [][2]api.Automaton{{large, bad}, {bad, large}} {
		if same, e := mini.Same(al, pair[0], pair[1]); same || e != api.ErrArg {
			t.Errorf("Same: %t, error %d", same, e)
		}
	}
	for _, x := range sample.BadTrees(al) {
		if class, e := mini.Class(al, large, x); class != 0 || e != api.ErrArg {
			t.Errorf("Class: %d, error %d", class, e)
		}
	}
}

// outcome is what one call of each function returns.
type outcome struct {
	minimal api.Automaton
	same    bool
	class   int
	equal   bool
	errors  [3]api.Errno
}

// callAll calls all functions.
func callAll(al api.Alphabet, a, b api.Automaton, x api.Tree) outcome {
	var o outcome
	o.minimal, o.errors[0] = mini.Minimal(al, a)
	o.same, o.errors[1] = mini.Same(al, a, b)
	o.class, o.errors[2] = mini.Class(al, a, x)
	o.equal = mini.Equal(a, b)
	return o
}

// P1, P2: all arguments are accepted, equal calls have equal results, and with
// an error they are zero.
func TestAnyArguments(t *testing.T) {
	automata := slices.Concat(sample.BadAutomata(small), sample.Automata(small)[:20], []api.Automaton{{}, sample.AllSets(300), sample.Counter(300), sample.Everything(small)})
	trees := append(sample.BadTrees(small), sample.Trees(small)[:10]...)
	for _, al := range append(sample.BadAlphabets(), api.Alphabet{}, small, api.Alphabet{Ranks: []int{0, 1, 1, 1, 1}}) {
		for i, a := range automata {
			b, x := automata[(i*7+3)%len(automata)], trees[i%len(trees)]
			o := callAll(al, a, b, x)
			if !reflect.DeepEqual(o, callAll(al, a, b, x)) {
				t.Errorf("%v, %s: equal calls have different results", al, sample.Show(a))
			}
			for _, e := range o.errors {
				if e != api.OK && e != api.ErrArg && e != api.ErrFull {
					t.Errorf("%v, %s: error %d", al, sample.Show(a), e)
				}
			}
			if o.errors[0] != api.OK && !sample.Equal(o.minimal, api.Automaton{}) || o.errors[1] != api.OK && o.same || o.errors[2] != api.OK && o.class != 0 {
				t.Errorf("%v, %s: a result beside an error", al, sample.Show(a))
			}
		}
	}
}

// P2: with many rules, results are the same in each call.
func TestResultsAreTheSame(t *testing.T) {
	var s sample.Source
	al := api.Alphabet{Ranks: []int{0, 0, 0, 1, 2, 2}}
	for range 20 {
		a, b := sample.Automaton(&s, al, 5, 60), sample.Automaton(&s, al, 4, 50)
		first := callAll(al, a, b, sample.Tree(1))
		for range 5 {
			if !reflect.DeepEqual(first, callAll(al, a, b, sample.Tree(1))) {
				t.Errorf("%s: equal calls have different results", sample.Show(a))
			}
		}
	}
}

// P2: results share no memory with arguments or other results, and arguments
// are not changed.
func TestNoSharing(t *testing.T) {
	automata := append(sample.Automata(small), sample.Everything(small), sample.Full(small, 3), definition(small, sample.Full(small, 5)))
	for i, a := range automata {
		before, x := sample.Copy(a), sample.Tree(2, sample.Tree(0))
		first, second := callAll(small, a, a, x), callAll(small, a, a, x)
		if sample.Share(a, first.minimal, second.minimal) {
			t.Errorf("automaton %d: memory is shared", i)
		}
		if !sample.Equal(a, before) || x.Sym != 2 || x.Kids[0].Sym != 0 {
			t.Errorf("automaton %d: an argument was changed", i)
		}
	}
}

// P10: minimal automata are printed and parsed back.
func TestRoundTrip(t *testing.T) {
	for _, a := range append(sample.Automata(small), sample.Full(small, 9)) {
		b, e := mini.Minimal(small, a)
		text, e1 := auto.Print(small, b)
		back, e2 := auto.Parse(small, text)
		if e != api.OK || e1 != api.OK || e2 != api.OK || !mini.Equal(b, back) {
			t.Errorf("%s: errors %d, %d and %d", sample.Show(b), e, e1, e2)
		}
	}
}
