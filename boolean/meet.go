package boolean

import (
	"boskage/api"
	"boskage/auto"
	"boskage/bitset"
	"iter"
)

// pair is a state of a left automaton with a state of a right one.
type pair [2]int

// place is a position below a symbol, with a state that is assigned to it.
type place struct {
	sym, pos, state int
}

// product is the automaton of the reachable pairs of states of two automata, as
// far as it is known.
type product struct {
	ranks       []int
	left, right api.Automaton
	// leftAt and rightAt contain the rules that have a state at a place.
	leftAt, rightAt map[place][]api.Rule
	numbers         map[pair]int
	pairs           []pair
	// visited contains for each left state the right states of the pairs whose
	// rules are known. It is asked far more often than numbers.
	visited []bitset.Set
	rules   []api.Rule
}

// Meet returns an automaton that accepts the trees that both a and b accept.
//
// Only useful states and reachable pairs of them count, so that the result
// often fits where the product of all states would not.
func Meet(al api.Alphabet, a, b api.Automaton) (api.Automaton, api.Errno) {
	left, e := auto.Trim(al, a)
	if e != api.OK {
		return api.Automaton{}, e
	}
	right, e := auto.Trim(al, b)
	if e != api.OK {
		return api.Automaton{}, e
	}
	p := &product{
		ranks: al.Ranks, left: left, right: right, leftAt: byPlace(left), rightAt: byPlace(right),
		numbers: map[pair]int{}, visited: make([]bitset.Set, left.States),
	}
	if !p.grow() {
		return api.Automaton{}, api.ErrFull
	}
	return auto.Trim(al, p.automaton())
}

// byPlace returns the rules of a by the places of their states.
func byPlace(a api.Automaton) map[place][]api.Rule {
	at := map[place][]api.Rule{}
	for _, r := range a.Rules {
		for pos, state := range r.From {
			x := place{r.Sym, pos, state}
			at[x] = append(at[x], r)
		}
	}
	return at
}

// grow adds all reachable pairs and the rules between them. It returns false
// if a limit is exceeded.
func (p *product) grow() bool {
	if !p.addAll(p.leaves()) {
		return false
	}
	for number := 0; number < len(p.pairs); number++ {
		x := p.pairs[number]
		p.visited[x[0]].Add(x[1])
		if !p.addAll(p.above(x)) {
			return false
		}
	}
	return true
}

// leaves yields the pairs of rules with a common symbol of rank 0.
func (p *product) leaves() iter.Seq2[api.Rule, api.Rule] {
	return func(yield func(api.Rule, api.Rule) bool) {
		for _, l := range p.left.Rules {
			if len(l.From) > 0 {
				continue
			}
			for _, r := range p.right.Rules {
				if l.Sym == r.Sym && !yield(l, r) {
					return
				}
			}
		}
	}
}

// above yields the pairs of rules with a common symbol between which all pairs
// in From are visited, and x is one of these. If x is the last pair that was
// visited, the pairs of rules are new.
func (p *product) above(x pair) iter.Seq2[api.Rule, api.Rule] {
	return func(yield func(api.Rule, api.Rule) bool) {
		for sym, rank := range p.ranks {
			for pos := range rank {
				for _, l := range p.leftAt[place{sym, pos, x[0]}] {
					for _, r := range p.rightAt[place{sym, pos, x[1]}] {
						if p.visitedAll(l, r) && first(l, r, x) == pos && !yield(l, r) {
							return
						}
					}
				}
			}
		}
	}
}

// visitedAll reports whether all pairs in From of two rules are visited.
func (p *product) visitedAll(l, r api.Rule) bool {
	for i, state := range l.From {
		if !p.visited[state].Has(r.From[i]) {
			return false
		}
	}
	return true
}

// first returns the first position at which two rules have a pair in From.
func first(l, r api.Rule, x pair) int {
	pos := 0
	for x != (pair{l.From[pos], r.From[pos]}) {
		pos++
	}
	return pos
}

// addAll adds a rule for each pair of rules. It returns false if a limit is
// exceeded.
func (p *product) addAll(rules iter.Seq2[api.Rule, api.Rule]) bool {
	for l, r := range rules {
		from := make([]int, len(l.From))
		for i := range from {
			from[i] = p.number(pair{l.From[i], r.From[i]})
		}
		to := p.number(pair{l.To, r.To})
		p.rules = append(p.rules, api.Rule{Sym: l.Sym, From: from, To: to})
		if len(p.pairs) > api.MaxStates || len(p.rules) > api.MaxRules {
			return false
		}
	}
	return true
}

// number returns the number of a pair, which is the next one if it has none.
func (p *product) number(x pair) int {
	number, known := p.numbers[x]
	if !known {
		number = len(p.pairs)
		p.numbers[x] = number
		p.pairs = append(p.pairs, x)
	}
	return number
}

// automaton returns the automaton whose states are the numbers of the pairs.
func (p *product) automaton() api.Automaton {
	left, right := bitset.Of(p.left.Final...), bitset.Of(p.right.Final...)
	var final []int
	for number, x := range p.pairs {
		if left.Has(x[0]) && right.Has(x[1]) {
			final = append(final, number)
		}
	}
	return api.Automaton{States: len(p.pairs), Final: final, Rules: p.rules}
}
