package count_test

import (
	"boskage/api"
	"boskage/count"
	"boskage/sample"
	"boskage/tree"
	"reflect"
	"slices"
	"testing"
)

// outcome is what one round of calls returns.
type outcome struct {
	numbers []int
	trees   []api.Tree
	list    []api.Tree
	errors  []api.Errno
}

func (o *outcome) addNumber(number int, e api.Errno) {
	o.numbers, o.errors = append(o.numbers, number), append(o.errors, e)
}

// callAll calls all functions.
func callAll(al api.Alphabet, a api.Automaton, n int, x api.Tree) outcome {
	var o outcome
	o.addNumber(count.Count(al, a, n))
	o.addNumber(count.Upto(al, a, n))
	o.addNumber(count.Rank(al, a, x))
	o.addNumber(count.Total(al, a))
	y, e := count.Nth(al, a, n)
	o.trees, o.errors = append(o.trees, y), append(o.errors, e)
	list, e := count.List(al, a, n)
	o.list, o.errors = list, append(o.errors, e)
	return o
}

// checkZero checks that results with errors are zero.
func (o outcome) checkZero(t *testing.T) {
	t.Helper()
	for i, number := range o.numbers {
		if o.errors[i] != api.OK && number != 0 {
			t.Errorf("call %d: %d beside error %d", i, number, o.errors[i])
		}
	}
	if e := o.errors[4]; e != api.OK {
		checkNoTree(t, "Nth", o.trees[0], e, e)
	}
	if o.errors[5] != api.OK && len(o.list) > 0 {
		t.Errorf("List: %d trees beside error %d", len(o.list), o.errors[5])
	}
}

// P9.1 to P9.6: all refuse alphabets and automata that are not valid, also where
// other errors apply.
func TestBadArguments(t *testing.T) {
	sample.BadArguments(func(al api.Alphabet, a api.Automaton) {
		for _, n := range []int{-1, 2} {
			o := callAll(al, a, n, sample.Tree(0))
			o.checkZero(t)
			for i, e := range o.errors {
				if e != api.ErrArg {
					t.Errorf("%s: call %d: error %d", sample.Show(a), i, e)
				}
			}
		}
	})
}

// P9.4: Rank refuses trees that are not valid, where another one is not accepted
// or Minimal finds a limit exceeded.
func TestBadTrees(t *testing.T) {
	for _, al := range append(sample.Alphabets(), api.Alphabet{Ranks: []int{0, 1, 1, 1, 1}}) {
		automata := []api.Automaton{{}, sample.Everything(al)}
		if len(al.Ranks) == 5 {
			automata = append(automata, sample.AllSets(300))
		}
		for _, x := range sample.BadTrees(al) {
			for _, a := range automata {
				rank, e := count.Rank(al, a, x)
				checkRefused(t, "Rank", rank, e, api.ErrArg)
			}
		}
	}
}

// P1, P2: all arguments are accepted, equal calls have equal results, and with
// an error they are zero.
func TestAnyArguments(t *testing.T) {
	automata := slices.Concat(sample.BadAutomata(all)[:20], sample.Automata(all)[:20], []api.Automaton{{}, sample.AllSets(300), sample.Counter(300), sample.Everything(all), sample.Power(2, 9)})
	trees := append(sample.BadTrees(all), sample.Trees(all)[:10]...)
	permitted := [][]api.Errno{
		{api.ErrArg, api.ErrRange, api.ErrFull}, {api.ErrArg, api.ErrRange, api.ErrFull}, {api.ErrArg, api.ErrInput, api.ErrFull},
		{api.ErrArg, api.ErrKind, api.ErrFull}, {api.ErrArg, api.ErrRange, api.ErrNone, api.ErrFull}, {api.ErrArg, api.ErrRange, api.ErrFull},
	}
	for _, al := range append(sample.BadAlphabets(), api.Alphabet{}, all, api.Alphabet{Ranks: []int{0, 1, 1, 1, 1}}) {
		for i, a := range automata {
			n, x := []int{-1 << 63, -1, 0, 1, 2, 30, 300, 301, 1001, api.MaxCount, 1<<63 - 1}[i%11], trees[i%len(trees)]
			o := callAll(al, a, n, x)
			o.checkZero(t)
			if !reflect.DeepEqual(o, callAll(al, a, n, x)) {
				t.Errorf("%v, %s: equal calls have different results", al, sample.Show(a))
			}
			for call, e := range o.errors {
				if e != api.OK && !slices.Contains(permitted[call], e) {
					t.Errorf("%v, %s: call %d: error %d", al, sample.Show(a), call, e)
				}
			}
		}
	}
}

// P2: with many rules, results are the same in each call.
func TestResultsAreTheSame(t *testing.T) {
	var s sample.Source
	al := api.Alphabet{Ranks: []int{0, 0, 0, 1, 2, 2}}
	for range 5 {
		a := sample.Automaton(&s, al, 5, 60)
		first := callAll(al, a, 15, sample.Tree(1))
		for range 4 {
			if !reflect.DeepEqual(first, callAll(al, a, 15, sample.Tree(1))) {
				t.Errorf("%s: equal calls have different results", sample.Show(a))
			}
		}
	}
}

// P2: results share no memory with each other or with an argument, no two parts
// of a tree share memory, and arguments are not changed.
func TestNoSharing(t *testing.T) {
	x := sample.Tree(2, sample.Tree(1, sample.Tree(0)), sample.Tree(0))
	for i, a := range append(sample.Automata(all), sample.Everything(all), sample.Power(2, 5)) {
		before := sample.Copy(a)
		trees := []api.Tree{x}
		for range 2 {
			o := callAll(all, a, 40, x)
			trees = append(append(trees, o.trees...), o.list...)
		}
		if sample.ShareTrees(trees...) {
			t.Errorf("automaton %d: memory is shared", i)
		}
		want := sample.Tree(2, sample.Tree(1, sample.Tree(0)), sample.Tree(0))
		if !sample.Equal(a, before) || tree.Compare(x, want) != 0 {
			t.Errorf("automaton %d: an argument was changed", i)
		}
	}
}

// P10: returned trees are printed and parsed back.
func TestRoundTrip(t *testing.T) {
	names := []string{"a", "g", "f", "h"}
	for _, a := range append(sample.Automata(all), sample.Everything(all), sample.Power(2, 8), sample.Power(1, 300)) {
		list, e := count.List(all, a, 30)
		if e == api.ErrFull {
			continue
		}
		for _, x := range list {
			text, e1 := tree.Print(all, names, x)
			back, e2 := tree.Parse(all, names, text)
			if e != api.OK || e1 != api.OK || e2 != api.OK || tree.Compare(x, back) != 0 {
				t.Errorf("%s: errors %d, %d and %d", text, e, e1, e2)
			}
		}
	}
}
