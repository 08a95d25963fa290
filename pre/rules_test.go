package pre_test

import (
	"boskage/api"
	"boskage/pre"
	"boskage/sample"
	"boskage/trans"
	"reflect"
	"slices"
	"testing"
)

// outcome is what one round of calls returns.
type outcome struct {
	inverse, undefined, image api.Automaton
	value                     []int
	outputs                   bool
	errors                    [5]api.Errno
}

// callAll calls all functions.
func callAll(tr api.Transducer, b, a api.Automaton, x api.Tree) outcome {
	var o outcome
	o.inverse, o.errors[0] = pre.Inverse(tr, b)
	o.undefined, o.errors[1] = pre.Undefined(tr)
	o.image, o.errors[2] = pre.Image(tr, a)
	o.value, o.errors[3] = pre.Value(tr, b, x)
	o.outputs, o.errors[4] = pre.Outputs(tr, b, x)
	return o
}

// check checks that calls return the wanted errors (-1 stands for all), and that
// what is returned with an error is zero.
func (o outcome) check(t *testing.T, what string, want ...api.Errno) {
	t.Helper()
	zero := [5]bool{sample.Equal(o.inverse, api.Automaton{}), sample.Equal(o.undefined, api.Automaton{}), sample.Equal(o.image, api.Automaton{}), len(o.value) == 0, !o.outputs}
	for i, e := range o.errors {
		if e < api.OK || e > api.ErrState || e != api.OK && !zero[i] {
			t.Errorf("%s: error %d of call %d, with a result", what, e, i)
		}
		if want[i] >= 0 && e != want[i] {
			t.Errorf("%s: error %d of call %d, want %d", what, e, i, want[i])
		}
	}
}

// P16.1 to P16.5: transducers that are not valid are refused before all else.
func TestBadTransducers(t *testing.T) {
	for i, tr := range sample.BadTransducers() {
		b, a, x := api.Automaton{}, api.Automaton{}, sample.Tree(0)
		if i%2 == 0 {
			b, a, x = api.Automaton{States: -1}, api.Automaton{States: -1}, sample.Tree(-1)
		}
		callAll(tr, b, a, x).check(t, "a bad transducer", api.ErrArg, api.ErrArg, api.ErrArg, api.ErrArg, api.ErrArg)
	}
}

// P16.1, P16.3 to P16.5: automata that are not valid, also where the transducer is
// not linear, too large, or has no output for the tree. Each is over the right
// alphabet only.
func TestBadAutomata(t *testing.T) {
	transducers := []api.Transducer{sample.Doubling(), sample.Exchange(), sample.Sizing()}
	large, _ := counters(299, 1, 1)
	transducers = append(transducers, large)
	for _, tr := range transducers {
		good := sample.Everything(tr.In)
		for _, bad := range sample.BadAutomata(tr.Out) {
			callAll(tr, bad, good, sample.Tree(0)).check(t, "b is bad", api.ErrArg, -1, -1, api.ErrArg, api.ErrArg)
			callAll(tr, bad, good, sample.Tree(-1)).check(t, "b and the tree are bad", api.ErrArg, -1, -1, api.ErrArg, api.ErrArg)
			callAll(tr, bad, good, sample.Tree(1)).check(t, "b is bad, and perhaps the tree", api.ErrArg, -1, -1, api.ErrArg, api.ErrArg)
		}
		for _, bad := range sample.BadAutomata(tr.In) {
			callAll(tr, sample.Everything(tr.Out), bad, sample.Tree(0)).check(t, "a is bad", -1, -1, api.ErrArg, api.OK, api.OK)
		}
	}
	// g has the rank 1 in one alphabet, and the symbol 1 the rank 2 in the other.
	tr := sample.CopyTransducer(sample.Doubling())
	tr.Rules[0][1][0] = sample.Side(0)
	in, out := sample.Everything(tr.In), sample.Everything(tr.Out)
	callAll(tr, out, in, sample.Tree(0)).check(t, "good", api.OK, api.OK, api.OK, api.OK, api.OK)
	callAll(tr, in, out, sample.Tree(0)).check(t, "exchanged", api.ErrArg, api.OK, api.ErrArg, api.ErrArg, api.ErrArg)
}

// P16.4, P16.5: trees that are not valid, also where no output is defined.
func TestBadTrees(t *testing.T) {
	for _, al := range sample.Alphabets() {
		for _, tr := range sample.Transducers(al, api.Alphabet{Ranks: []int{0, 2}}) {
			b := sample.Everything(tr.Out)
			for _, x := range sample.BadTrees(al) {
				callAll(tr, b, api.Automaton{}, x).check(t, "a bad tree", -1, -1, -1, api.ErrArg, api.ErrArg)
			}
		}
	}
}

// P1, P2: all arguments are accepted, equal calls have equal results, and with an
// error they are zero.
func TestAnyArguments(t *testing.T) {
	transducers := slices.Concat(sample.BadTransducers()[:40], []api.Transducer{sample.LargeTransducer(), sample.Duties(8, 1), sample.Duties(300, 300)})
	for _, al := range sample.Alphabets() {
		transducers = append(transducers, sample.Transducers(al, api.Alphabet{Ranks: []int{0, 1, 2, 3}})...)
	}
	al := api.Alphabet{Ranks: []int{0, 1, 2, 3}}
	automata := slices.Concat(sample.BadAutomata(al)[:25], sample.Automata(al), []api.Automaton{{}, sample.AllSets(300), sample.Counter(300), sample.Full(al, 26), sample.Power(3, 300)})
	trees := slices.Concat(sample.BadTrees(al), sample.Trees(al), []api.Tree{sample.Chain(300, 1, 0)})
	for i, tr := range transducers {
		for j := i % 11; j < len(automata); j += 11 {
			a, x := automata[(i*7+j)%len(automata)], trees[(i*5+j)%len(trees)]
			o := callAll(tr, automata[j], a, x)
			o.check(t, "any arguments", -1, -1, -1, -1, -1)
			if j%3 == 0 && !reflect.DeepEqual(o, callAll(tr, automata[j], a, x)) {
				t.Errorf("transducer %d: equal calls have different results", i)
			}
		}
	}
}

// P1: what is as large as possible is answered or refused in good time.
func TestLargest(t *testing.T) {
	large := sample.LargeTransducer()
	linear := sample.CopyTransducer(large)
	for _, row := range linear.Rules {
		for sym, rank := range linear.In.Ranks {
			x := sample.ChainSide(api.MaxOut-9, 1, 1, sample.Side(0))
			for kid := range rank {
				x = sample.Side(3, x, sample.Call(kid*100, kid), sample.Side(0))
			}
			row[sym] = []api.Out{x}
		}
	}
	linear.Axiom = sample.Call(0, 0)
	linear.Domain = sample.EverythingTopdown(linear.In)
	if is, e := trans.Linear(linear); !is || e != api.OK {
		t.Fatalf("%t, error %d", is, e)
	}
	var s sample.Source
	for _, a := range []api.Automaton{sample.Full(large.In, 10), sample.Full(large.In, 17), sample.Automaton(&s, large.In, api.MaxStates, api.MaxRules), sample.Everything(large.In)} {
		for _, tr := range []api.Transducer{large, linear} {
			callAll(tr, a, a, sample.Chain(300, 1, 0)).check(t, "large", -1, -1, -1, -1, -1)
		}
	}
}

// P2: arguments are not changed, and results share no memory with them or with
// each other.
func TestNoSharing(t *testing.T) {
	forCases(func(tr api.Transducer, b, a api.Automaton, trees []api.Tree) {
		if tr.States != 1 || len(trees) == 0 {
			return
		}
		x := trees[len(trees)/2]
		beforeTr, beforeB, beforeA := sample.CopyTransducer(tr), sample.Copy(b), sample.Copy(a)
		one, two := callAll(tr, b, a, x), callAll(tr, b, a, x)
		if sample.Share(b, a, one.inverse, one.undefined, one.image, two.inverse, two.undefined, two.image) {
			t.Errorf("%s: memory is shared", show(tr, b))
		}
		if len(one.value) > 0 && &one.value[0] == &two.value[0] {
			t.Errorf("%s: values share memory", show(tr, b))
		}
		if !sample.EqualTransducers(tr, beforeTr) || !sample.Equal(b, beforeB) || !sample.Equal(a, beforeA) {
			t.Errorf("%s: an argument was changed", show(tr, b))
		}
	})
}
