package boolean_test

import (
	"boskage/api"
	"boskage/auto"
	"boskage/boolean"
	"boskage/sample"
	"reflect"
	"slices"
	"testing"
)

// result is what one call returns.
type result struct {
	what string
	a    api.Automaton
	e    api.Errno
}

// callAll calls all functions.
func callAll(al api.Alphabet, symbols []int, a, b api.Automaton, s int) []result {
	union, e1 := boolean.Union(al, a, b)
	meet, e2 := boolean.Meet(al, a, b)
	minus, e3 := boolean.Minus(al, a, b)
	relabeled, e4 := boolean.Relabel(al, al, symbols, a)
	unlabeled, e5 := boolean.Unlabel(al, al, symbols, a)
	under, e6 := boolean.Under(al, a, s)
	return []result{{"Union", union, e1}, {"Meet", meet, e2}, {"Minus", minus, e3}, {"Relabel", relabeled, e4}, {"Unlabel", unlabeled, e5}, {"Under", under, e6}}
}

// P1, P2: all arguments are accepted, equal calls have equal results, and with
// an error they are zero.
func TestAnyArguments(t *testing.T) {
	automata := slices.Concat(sample.BadAutomata(small)[:20], sample.Automata(small)[:20], []api.Automaton{{}, sample.AllSets(300), sample.Counter(300), sample.Everything(small)})
	symbols := [][]int{nil, {0}, {1, 0, 2, 3}, {-1, 4, 1 << 62, -1 << 63}}
	for _, al := range append(sample.BadAlphabets(), api.Alphabet{}, small, api.Alphabet{Ranks: []int{0, 1, 1, 1, 1}}) {
		for i, a := range automata {
			for j, b := range automata {
				list, s := symbols[(i+j)%4], []int{-1, 0, 3, 1 << 62}[(i*j)%4]
				results := callAll(al, list, a, b, s)
				if (i+j)%5 == 0 && !reflect.DeepEqual(results, callAll(al, list, a, b, s)) {
					t.Errorf("%v, %s: equal calls have different results", al, sample.Show(a))
				}
				for _, r := range results {
					if r.e < api.OK || r.e > api.ErrState || r.e != api.OK && !sample.Equal(r.a, api.Automaton{}) || r.e == api.OK && !auto.Valid(al, r.a) {
						t.Errorf("%s over %v: error %d, %s", r.what, al, r.e, sample.Show(r.a))
					}
				}
			}
		}
	}
}

// P2: with many rules, results are the same in each call.
func TestResultsAreTheSame(t *testing.T) {
	var s sample.Source
	al := api.Alphabet{Ranks: []int{0, 0, 0, 1, 2, 2}}
	symbols := []int{1, 2, 0, 3, 4, 4}
	for range 10 {
		a, b := sample.Automaton(&s, al, 5, 60), sample.Automaton(&s, al, 4, 50)
		first := callAll(al, symbols, a, b, 4)
		for range 5 {
			if !reflect.DeepEqual(first, callAll(al, symbols, a, b, 4)) {
				t.Errorf("%s: equal calls have different results", sample.Show(a))
			}
		}
	}
}

// P2: results share no memory with arguments or other results, and arguments
// are not changed.
func TestNoSharing(t *testing.T) {
	al, symbols := api.Alphabet{Ranks: []int{0, 1, 1, 2, 2}}, []int{0, 1, 1, 3, 3}
	automata := append(sample.Automata(al), sample.Everything(al), sample.Full(al, 3))
	for i, a := range automata {
		b := automata[len(automata)-1-i]
		if i == len(automata)/2 {
			b = a
		}
		before, second := sample.Copy(a), sample.Copy(b)
		all := []api.Automaton{a}
		for _, r := range append(callAll(al, symbols, a, b, i%5), callAll(al, symbols, a, b, i%5)...) {
			all = append(all, r.a)
		}
		if sample.Share(all...) || sample.Share(append(all[1:], b)...) {
			t.Errorf("automaton %d: memory is shared", i)
		}
		if !sample.Equal(a, before) || !sample.Equal(b, second) || !slices.Equal(symbols, []int{0, 1, 1, 3, 3}) {
			t.Errorf("automaton %d: an argument was changed", i)
		}
	}
}

// P10: results are printed and parsed back.
func TestRoundTrip(t *testing.T) {
	automata := sample.Automata(small)
	for i, a := range automata {
		for _, r := range callAll(small, []int{1, 0, 2, 3}, a, automata[len(automata)-1-i], i%4) {
			text, e := auto.Print(small, r.a)
			if e == api.ErrFull {
				continue
			}
			back, e2 := auto.Parse(small, text)
			if e != api.OK || e2 != api.OK || !sample.Equal(r.a, back) {
				t.Errorf("%s: %s, errors %d and %d", r.what, sample.Show(r.a), e, e2)
			}
		}
	}
}
