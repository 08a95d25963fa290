package deter_test

import (
	"boskage/api"
	"boskage/deter"
	"boskage/sample"
	"slices"
	"testing"
)

// filled is Fill of a deterministic automaton, word for word.
func filled(al api.Alphabet, a api.Automaton) api.Automaton {
	if len(a.Rules) == fullNumber(al, a.States) {
		return a
	}
	b := sample.Copy(a)
	b.States++
	for sym, rank := range al.Ranks {
		for _, from := range sample.Lists(rank, b.States) {
			known := func(r api.Rule) bool { return r.Sym == sym && slices.Equal(r.From, from) }
			if !slices.ContainsFunc(a.Rules, known) {
				b.Rules = append(b.Rules, sample.Rule(sym, a.States, from...))
			}
		}
	}
	return b
}

// P4.2, P4.5, P4.6
func TestFill(t *testing.T) {
	for _, al := range sample.Alphabets() {
		trees := sample.Trees(al)
		for _, a := range sample.Automata(al) {
			b, e := deter.Fill(al, a)
			if !sample.Deterministic(a) {
				checkRefused(t, "Fill", b, e, api.ErrKind)
				a = sample.DeterministicPart(a)
				b, e = deter.Fill(al, a)
			}
			checkAutomaton(t, "Fill", b, e, filled(al, a))
			checkDeterministic(t, "Fill", al, b, e)
			checkComplete(t, "Fill", al, b)
			checkLanguage(t, "Fill", trees, a, b, true)
		}
	}
}

// P4.2: automata that are complete, or almost, with rules in any order.
func TestFillAlmostComplete(t *testing.T) {
	for _, al := range sample.Alphabets() {
		for states := range 4 {
			a := api.Automaton{}
			if fullNumber(al, states) > 0 && states == 0 {
				states = 1
			}
			a = sample.Full(al, states)
			slices.Reverse(a.Rules)
			b, e := deter.Fill(al, a)
			checkAutomaton(t, "complete", b, e, a)
			if len(a.Rules) == 0 {
				continue
			}
			for _, i := range []int{0, len(a.Rules) / 2, len(a.Rules) - 1} {
				fewer := sample.Copy(a)
				fewer.Rules = slices.Delete(fewer.Rules, i, i+1)
				b, e := deter.Fill(al, fewer)
				checkAutomaton(t, "one rule less", b, e, filled(al, fewer))
			}
		}
	}
}

// P4.2: automata without states or symbols.
func TestFillEmpty(t *testing.T) {
	b, e := deter.Fill(api.Alphabet{}, api.Automaton{})
	checkAutomaton(t, "no symbols", b, e, api.Automaton{})
	b, e = deter.Fill(api.Alphabet{}, api.Automaton{States: 2, Final: []int{1}})
	checkAutomaton(t, "no symbols", b, e, api.Automaton{States: 2, Final: []int{1}})
	b, e = deter.Fill(api.Alphabet{Ranks: []int{1, 3}}, api.Automaton{})
	checkAutomaton(t, "no leaves", b, e, api.Automaton{})
	b, e = deter.Fill(api.Alphabet{Ranks: []int{1, 0}}, api.Automaton{})
	checkAutomaton(t, "no states", b, e, api.Automaton{States: 1, Rules: []api.Rule{sample.Rule(0, 0, 0), sample.Rule(1, 0)}})
	b, e = deter.Fill(api.Alphabet{Ranks: []int{2}}, api.Automaton{States: 1, Final: []int{0}})
	checkAutomaton(t, "no rules", b, e, api.Automaton{States: 2, Final: []int{0}, Rules: []api.Rule{
		sample.Rule(0, 1, 0, 0), sample.Rule(0, 1, 0, 1), sample.Rule(0, 1, 1, 0), sample.Rule(0, 1, 1, 1),
	}})
}

// P4.2: MaxStates states and MaxRules rules, and more.
func TestFillLimits(t *testing.T) {
	tests := []struct {
		what  string
		ranks []int
		a     api.Automaton
		want  api.Errno
	}{
		{"300 states", []int{0, 1}, sample.Counter(299), api.OK},
		{"301 states", []int{0, 1}, sample.Counter(300), api.ErrFull},
		{"301 states and no rules", []int{0}, api.Automaton{States: 300}, api.ErrFull},
		{"300 states, complete", []int{0, 1}, sample.Full(api.Alphabet{Ranks: []int{0, 1}}, 300), api.OK},
		{"300 states, no symbols", nil, api.Automaton{States: 300, Final: []int{7}}, api.OK},
		{"20000 rules", []int{2, 2}, api.Automaton{States: 99}, api.OK},
		{"20001 rules", []int{2, 0, 2}, api.Automaton{States: 99}, api.ErrFull},
		{"20001 rules, one missing", []int{2, 0, 2}, sample.Full(api.Alphabet{Ranks: []int{2, 0, 2}}, 99), api.OK},
		{"19882 rules", []int{0, 2}, api.Automaton{States: 140}, api.OK},
		{"20165 rules", []int{0, 2}, api.Automaton{States: 141}, api.ErrFull},
		{"19683 rules", []int{3}, api.Automaton{States: 26}, api.OK},
		{"21952 rules", []int{3}, api.Automaton{States: 27}, api.ErrFull},
		{"many rules", slices.Repeat([]int{3}, 12), api.Automaton{States: 299}, api.ErrFull},
		{"not deterministic", []int{0, 2}, api.Automaton{States: 300, Rules: []api.Rule{sample.Rule(0, 0), sample.Rule(0, 1)}}, api.ErrKind},
		{"not deterministic", []int{0, 3}, api.Automaton{States: 299, Rules: []api.Rule{sample.Rule(0, 1), sample.Rule(0, 1)}}, api.ErrKind},
	}
	for _, test := range tests {
		al := api.Alphabet{Ranks: test.ranks}
		b, e := deter.Fill(al, test.a)
		if test.want != api.OK {
			checkRefused(t, test.what, b, e, test.want)
			continue
		}
		checkDeterministic(t, test.what, al, b, e)
		checkComplete(t, test.what, al, b)
		if n := len(test.a.Rules); n > len(b.Rules) || !sample.Equal(api.Automaton{Rules: b.Rules[:n]}, api.Automaton{Rules: test.a.Rules}) || !slices.Equal(b.Final, test.a.Final) {
			t.Errorf("%s: the rules do not begin with those of a", test.what)
		}
	}
}
