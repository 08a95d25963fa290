package incl_test

import (
	"boskage/api"
	"boskage/incl"
	"boskage/sample"
	"boskage/tree"
	"reflect"
	"slices"
	"testing"
)

// callAll calls all functions.
func callAll(al api.Alphabet, a, b api.Automaton, s, u int) []decision {
	return []decision{
		decided(incl.Included(al, a, b)), decided(incl.Equal(al, a, b)), decided(incl.Disjoint(al, a, b)),
		decided(incl.Universal(al, a)), decided(incl.Unambiguous(al, a)), decided(incl.Distinct(al, a, s, u)),
	}
}

// P8.1 to P8.6: all refuse alphabets and automata that are not valid, also where
// other errors apply.
func TestBadArguments(t *testing.T) {
	sample.BadArguments(func(al api.Alphabet, a api.Automaton) {
		for i, d := range callAll(al, a, api.Automaton{}, -1, 1<<62) {
			if i < 5 || d.e != api.ErrArg {
				checkRefused(t, "first", d, api.ErrArg)
			}
		}
		for _, d := range callAll(al, a, a, 0, 0) {
			checkRefused(t, "both", d, api.ErrArg)
		}
		for _, d := range callAll(al, api.Automaton{}, a, 0, 0)[:3] {
			checkRefused(t, "second", d, api.ErrArg)
		}
	})
	al := api.Alphabet{Ranks: []int{0, 1, 1, 1, 1}}
	large, bad := sample.AllSets(300), api.Automaton{States: 300, Final: []int{300}}
	for _, d := range append(callAll(al, large, bad, 0, 0)[:3], callAll(al, bad, large, 0, 0)...) {
		checkRefused(t, "large", d, api.ErrArg)
	}
}

// P8.6: states that do not exist.
func TestDistinctRange(t *testing.T) {
	al := api.Alphabet{Ranks: []int{0, 1, 1, 1, 1}}
	for _, a := range []api.Automaton{{}, {States: 1}, sample.Counter(3), sample.AllSets(300)} {
		for _, s := range []int{-1, a.States, a.States + 1, 1 << 62, -1 << 63} {
			checkRefused(t, "both", decided(incl.Distinct(al, a, s, s)), api.ErrRange)
			checkRefused(t, "first", decided(incl.Distinct(al, a, s, 0)), api.ErrRange)
			checkRefused(t, "second", decided(incl.Distinct(al, a, 0, s)), api.ErrRange)
		}
	}
}

// P1, P2: all arguments are accepted, equal calls have equal results, and with
// an error they are zero.
func TestAnyArguments(t *testing.T) {
	automata := slices.Concat(sample.BadAutomata(all)[:20], sample.Automata(all)[:20], []api.Automaton{{}, sample.AllSets(300), sample.Counter(300), sample.Everything(all), sample.Full(all, 26), sample.Power(2, 9)})
	for _, al := range append(sample.BadAlphabets(), api.Alphabet{}, all, api.Alphabet{Ranks: []int{0, 1, 1, 1, 1}}) {
		for i, a := range automata {
			for j := 0; j < 3; j++ {
				b, s, u := automata[(i*7+5*j)%len(automata)], []int{-1, 0, 299, 1 << 62}[(i+j)%4], []int{0, 1, 299, -1 << 63}[(i*j)%4]
				results := callAll(al, a, b, s, u)
				if !reflect.DeepEqual(results, callAll(al, a, b, s, u)) {
					t.Errorf("%v, %s: equal calls have different results", al, sample.Show(a))
				}
				for k, d := range results {
					if d.e != api.OK && d.e != api.ErrArg && d.e != api.ErrFull && (d.e != api.ErrRange || k < 5) || (d.e != api.OK || d.is) && !isZero(d.x) || d.e != api.OK && d.is {
						t.Errorf("%v, %s: call %d: %t, %v, error %d", al, names(a, b), k, d.is, d.x, d.e)
					}
				}
			}
		}
	}
}

// P2: with many rules, results are the same in each call.
func TestResultsAreTheSame(t *testing.T) {
	var s sample.Source
	al := api.Alphabet{Ranks: []int{0, 0, 0, 1, 2, 2}}
	for range 10 {
		a, b := sample.Automaton(&s, al, 5, 60), sample.Automaton(&s, al, 4, 50)
		first := callAll(al, a, b, 1, 2)
		for range 5 {
			if !reflect.DeepEqual(first, callAll(al, a, b, 1, 2)) {
				t.Errorf("%s: equal calls have different results", names(a, b))
			}
		}
	}
}

// P2: results share no memory with each other, no two parts of a tree share
// memory, and arguments are not changed.
func TestNoSharing(t *testing.T) {
	automata := append(sample.Automata(all), sample.Power(2, 8), sample.Power(3, 5), sample.Everything(all), twoLeaves(5))
	for i, a := range automata {
		b := automata[len(automata)-1-i]
		beforeA, beforeB := sample.Copy(a), sample.Copy(b)
		var trees []api.Tree
		for _, d := range append(callAll(all, a, b, 0, 0), callAll(all, a, b, 0, 0)...) {
			trees = append(trees, d.x)
		}
		if sample.ShareTrees(trees...) {
			t.Errorf("automaton %d: memory is shared", i)
		}
		if !sample.Equal(a, beforeA) || !sample.Equal(b, beforeB) {
			t.Errorf("automaton %d: an argument was changed", i)
		}
	}
}

// P10: returned trees are printed and parsed back.
func TestRoundTrip(t *testing.T) {
	symbols := []string{"a", "g", "f", "h"}
	automata := append(sample.Automata(all), sample.Power(2, 8), sample.Power(3, 5), twoLeaves(5))
	for i, a := range automata {
		for _, d := range callAll(all, a, automata[len(automata)-1-i], 0, a.States-1) {
			if d.is || d.e != api.OK {
				continue
			}
			text, e1 := tree.Print(all, symbols, d.x)
			back, e2 := tree.Parse(all, symbols, text)
			if e1 != api.OK || e2 != api.OK || tree.Compare(d.x, back) != 0 {
				t.Errorf("%s: errors %d and %d", text, e1, e2)
			}
		}
	}
}
