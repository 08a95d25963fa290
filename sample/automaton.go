package sample

import (
	"boskage/api"
	"slices"
	"strconv"
)

// Rule makes a rule.
func Rule(sym int, to int, from ...int) api.Rule {
	return api.Rule{Sym: sym, From: from, To: to}
}

// Automaton makes an automaton over al with the given numbers of states and
// rules, in no particular order and perhaps with duplicates.
func Automaton(s *Source, al api.Alphabet, states, rules int) api.Automaton {
	a := api.Automaton{States: states}
	for state := range states {
		if s.Below(3) == 0 {
			a.Final = append(a.Final, state)
		}
	}
	if states == 0 || len(al.Ranks) == 0 {
		return a
	}
	for range rules {
		sym := s.Below(len(al.Ranks))
		r := Rule(sym, s.Below(states))
		for range al.Ranks[sym] {
			state := s.Below(states)
			r.From = append(r.From, state)
		}
		a.Rules = append(a.Rules, r)
	}
	return a
}

// Acyclic makes a random automaton in which each state is only above lesser
// ones.
func Acyclic(s *Source, al api.Alphabet, states, rules int) api.Automaton {
	a := Automaton(s, al, states, rules)
	for i, r := range a.Rules {
		for pos := range r.From {
			a.Rules[i].From[pos] = r.From[pos] % max(r.To, 1)
		}
	}
	a.Rules = slices.DeleteFunc(a.Rules, func(r api.Rule) bool { return r.To == 0 && len(r.From) > 0 })
	return a
}

// Automata returns automata over al of many kinds: with 0 to 4 states, and with
// few and many rules.
func Automata(al api.Alphabet) []api.Automaton {
	var s Source
	var list []api.Automaton
	for states := range 5 {
		for rules := range 3*states + 4 {
			list = append(list, Automaton(&s, al, states, rules), Automaton(&s, al, states, 2*rules))
		}
	}
	return list
}

// WithB returns an automaton that accepts the trees over a, b (rank 0) and f
// (rank 2) with some leaf b.
func WithB() Over {
	return Over{api.Alphabet{Ranks: []int{0, 0, 2}}, api.Automaton{States: 2, Final: []int{1}, Rules: []api.Rule{
		Rule(0, 0), Rule(1, 0), Rule(1, 1), Rule(2, 0, 0, 0), Rule(2, 1, 1, 0), Rule(2, 1, 0, 1),
	}}}
}

// Everything returns an automaton that accepts all trees over al.
func Everything(al api.Alphabet) api.Automaton {
	a := api.Automaton{States: 1, Final: []int{0}}
	for sym, rank := range al.Ranks {
		a.Rules = append(a.Rules, Rule(sym, 0, make([]int, rank)...))
	}
	return a
}

// BadAutomata returns automata that are not valid over al.
func BadAutomata(al api.Alphabet) []api.Automaton {
	bad := []api.Automaton{
		{States: -1},
		{States: api.MaxStates + 1},
		{States: 1 << 62},
		{States: 0, Final: []int{0}},
		{States: 2, Final: []int{2}},
		{States: 2, Final: []int{-1}},
		{States: 2, Final: []int{0, 0}},
		{States: 2, Final: []int{1, 0}},
		{States: 3, Final: []int{0, 2, 1}},
		{States: 2, Final: make([]int, 1<<16)},
		{States: 1, Rules: []api.Rule{Rule(-1, 0)}},
		{States: 1, Rules: []api.Rule{Rule(len(al.Ranks), 0)}},
		{States: 1, Rules: []api.Rule{Rule(1<<62, 0)}},
	}
	for sym, rank := range al.Ranks {
		good := Rule(sym, 0, make([]int, rank)...)
		long := slices.Repeat([]api.Rule{good}, api.MaxRules+1)
		bad = append(bad,
			api.Automaton{States: 1, Rules: long},
			api.Automaton{States: 0, Rules: []api.Rule{good}},
			api.Automaton{States: 2, Rules: []api.Rule{good, Rule(sym, 2, good.From...)}},
			api.Automaton{States: 2, Rules: []api.Rule{good, Rule(sym, -1, good.From...)}},
			api.Automaton{States: 2, Rules: []api.Rule{Rule(sym, 0, make([]int, rank+1)...)}},
			api.Automaton{States: 2, Rules: []api.Rule{good, Rule(sym, 0, make([]int, 1<<16)...)}},
		)
		for i := range rank {
			low, high := slices.Clone(good.From), slices.Clone(good.From)
			low[i], high[i] = -1, 2
			bad = append(bad,
				api.Automaton{States: 2, Rules: []api.Rule{good, Rule(sym, 0, low...)}},
				api.Automaton{States: 2, Rules: []api.Rule{good, Rule(sym, 0, high...)}},
				api.Automaton{States: 2, Rules: []api.Rule{good, Rule(sym, 0, good.From[:i]...)}},
			)
		}
	}
	return bad
}

// BadArguments calls f with alphabets and automata of which one is not valid.
func BadArguments(f func(al api.Alphabet, a api.Automaton)) {
	for _, al := range BadAlphabets() {
		f(al, api.Automaton{})
		f(al, api.Automaton{States: 1, Rules: []api.Rule{Rule(0, 0)}})
	}
	for _, al := range Alphabets() {
		for _, a := range BadAutomata(al) {
			f(al, a)
		}
	}
}

// Show describes an automaton, in a few words if it is large.
func Show(a api.Automaton) string {
	text := "(" + strconv.Itoa(a.States) + " states"
	if len(a.Rules) > 50 {
		return text + " and " + strconv.Itoa(len(a.Rules)) + " rules)"
	}
	text += ", final" + showNumbers(a.Final)
	for _, r := range a.Rules {
		text += "; " + strconv.Itoa(r.Sym) + ":" + showNumbers(r.From) + " -> " + strconv.Itoa(r.To)
	}
	return text + ")"
}

func showNumbers(list []int) string {
	text := ""
	for _, number := range list {
		text += " " + strconv.Itoa(number)
	}
	return text
}

// States returns the states that runs of a assign to the root of t, in
// increasing order.
func States(a api.Automaton, t api.Tree) []int {
	kids := make([][]int, len(t.Kids))
	for i, kid := range t.Kids {
		kids[i] = States(a, kid)
	}
	return Targets(a, t.Sym, kids)
}

// Targets returns the states To of the rules of a with a symbol and with a
// state of each set in From, in increasing order.
func Targets(a api.Automaton, sym int, sets [][]int) []int {
	var list []int
	for _, r := range a.Rules {
		fits := r.Sym == sym
		for i := 0; fits && i < len(sets); i++ {
			fits = slices.Contains(sets[i], r.From[i])
		}
		if fits {
			list = append(list, r.To)
		}
	}
	slices.Sort(list)
	return slices.Compact(list)
}

// Accepts reports whether a accepts t.
func Accepts(a api.Automaton, t api.Tree) bool {
	for _, state := range States(a, t) {
		if slices.Contains(a.Final, state) {
			return true
		}
	}
	return false
}

// Deterministic reports whether no two rules of a have the same symbol and the
// same From.
func Deterministic(a api.Automaton) bool {
	type head struct {
		sym  int
		from [api.MaxRank]int
	}
	seen := map[head]bool{}
	for _, r := range a.Rules {
		x := head{sym: r.Sym}
		copy(x.from[:], r.From)
		if seen[x] {
			return false
		}
		seen[x] = true
	}
	return true
}

// DeterministicPart returns a without the rules that follow another one with
// the same symbol and From.
func DeterministicPart(a api.Automaton) api.Automaton {
	b := api.Automaton{States: a.States, Final: a.Final}
	for _, r := range a.Rules {
		more := append(slices.Clone(b.Rules), r)
		if Deterministic(api.Automaton{States: a.States, Rules: more}) {
			b.Rules = more
		}
	}
	return b
}

// Lists returns all lists of n numbers below limit, in lexicographic order.
func Lists(n, limit int) [][]int {
	all := [][]int{{}}
	for range n {
		var longer [][]int
		for _, list := range all {
			for number := range limit {
				longer = append(longer, append(slices.Clone(list), number))
			}
		}
		all = longer
	}
	return all
}

// Equal reports whether two automata are the same, where an empty list equals
// nil.
func Equal(a, b api.Automaton) bool {
	return a.States == b.States && slices.Equal(a.Final, b.Final) && slices.EqualFunc(a.Rules, b.Rules, equalRules)
}

func equalRules(a, b api.Rule) bool {
	return a.Sym == b.Sym && slices.Equal(a.From, b.From) && a.To == b.To
}

// Copy returns a copy of a.
func Copy(a api.Automaton) api.Automaton {
	c := api.Automaton{States: a.States, Final: slices.Clone(a.Final)}
	for _, r := range a.Rules {
		c.Rules = append(c.Rules, Rule(r.Sym, r.To, slices.Clone(r.From)...))
	}
	return c
}

// Share reports whether two lists in the automata share memory, up to their
// capacities.
func Share(automata ...api.Automaton) bool {
	rules, numbers := map[*api.Rule]bool{}, map[*int]bool{}
	shared := false
	for _, a := range automata {
		shared = AddNew(numbers, a.Final) || shared
		shared = AddNew(rules, a.Rules) || shared
		for _, r := range a.Rules {
			shared = AddNew(numbers, r.From) || shared
		}
	}
	return shared
}
