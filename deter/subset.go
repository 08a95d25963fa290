package deter

import (
	"boskage/api"
	"boskage/auto"
	"boskage/bitset"
	"boskage/rule"
	"cmp"
	"iter"
	"slices"
)

// edge is a rule of the subset automaton whose state To has no number yet.
type edge struct {
	sym  int
	from []int
	to   bitset.Set
}

// builder contains what is known of the subset automaton.
type builder struct {
	leaves  []edge
	lookups []lookup
	sets    []bitset.Set
	numbers map[bitset.Set]int
	rules   []api.Rule
}

// Subset returns the subset automaton and the sets that its states stand for.
func Subset(al api.Alphabet, a api.Automaton) (api.Automaton, [][]int, api.Errno) {
	if !auto.Valid(al, a) {
		return api.Automaton{}, nil, api.ErrArg
	}
	b := newBuilder(al, a)
	fits := b.round(slices.Values(b.leaves))
	for earlier := 0; fits && earlier < len(b.sets); {
		now := len(b.sets)
		fits = b.round(b.edges(earlier))
		earlier = now
	}
	if !fits {
		return api.Automaton{}, nil, api.ErrFull
	}
	slices.SortFunc(b.rules, rule.Compare)
	return api.Automaton{States: len(b.sets), Final: b.final(a), Rules: b.rules}, b.lists(), api.OK
}

func newBuilder(al api.Alphabet, a api.Automaton) *builder {
	b := &builder{numbers: map[bitset.Set]int{}}
	rules := rule.NewTable(al, a)
	for sym, rank := range al.Ranks {
		groups := rules.Groups(sym)
		if rank == 0 && len(groups) > 0 {
			b.leaves = append(b.leaves, edge{sym: sym, to: groups[0].To})
		}
		for first := range rank {
			b.lookups = append(b.lookups, newLookup(sym, rank, first, groups))
		}
	}
	return b
}

// round adds rules for the edges and numbers for new sets. It returns false if
// a limit is exceeded.
func (b *builder) round(edges iter.Seq[edge]) bool {
	var found []edge
	for x := range edges {
		found = append(found, x)
		if len(b.rules)+len(found) > api.MaxRules {
			return false
		}
	}
	slices.SortFunc(found, func(x, y edge) int {
		return cmp.Or(cmp.Compare(x.sym, y.sym), slices.Compare(x.from, y.from))
	})
	for _, x := range found {
		b.rules = append(b.rules, api.Rule{Sym: x.sym, From: x.from, To: b.number(x.to)})
	}
	return len(b.sets) <= api.MaxStates
}

// number returns the number of a set, which is the next one if it has none.
func (b *builder) number(set bitset.Set) int {
	number, known := b.numbers[set]
	if !known {
		number = len(b.sets)
		b.numbers[set] = number
		b.sets = append(b.sets, set)
	}
	return number
}

// final returns the numbers of the sets with a final state of a.
func (b *builder) final(a api.Automaton) []int {
	wanted := bitset.Of(a.Final...)
	var final []int
	for number, set := range b.sets {
		if set.Meets(&wanted) {
			final = append(final, number)
		}
	}
	return final
}

// lists returns the sets as lists of states.
func (b *builder) lists() [][]int {
	var all [][]int
	for _, set := range b.sets {
		all = append(all, set.List())
	}
	return all
}

// edges yields, in no particular order, the edges from lists of sets that do
// not consist of the earlier ones only.
func (b *builder) edges(earlier int) iter.Seq[edge] {
	return func(yield func(edge) bool) {
		for _, l := range b.lookups {
			s := search{builder: b, lookup: l, earlier: earlier, yield: yield, from: make([]int, len(l.order))}
			if !s.extend(l.rows, 0) {
				return
			}
		}
	}
}

// search looks for the lists of sets with a later set at the first position of
// a lookup and with earlier ones at all positions to the left of it. (So each
// list belongs to one search only, and the sets that have not been tried come
// first: with them, few rows remain.)
type search struct {
	*builder
	lookup
	earlier int
	from    []int
	yield   func(edge) bool
}

// extend chooses sets for the positions in order, beginning with the one at
// depth, where rows are those that agree with the choices before. It returns
// false if the receiver wants no more edges.
func (s *search) extend(rows []row, depth int) bool {
	if len(rows) == 0 {
		return true
	}
	if depth == len(s.order) {
		return s.yield(edge{s.sym, slices.Clone(s.from), rows[0].to})
	}
	pos := s.order[depth]
	least, limit := s.bounds(pos)
	for number := least; number < limit; number++ {
		s.from[pos] = number
		if !s.extend(restrict(rows, &s.sets[number]), depth+1) {
			return false
		}
	}
	return true
}

// bounds returns the least number of a set for a position, and the number
// after the greatest one.
func (s *search) bounds(pos int) (int, int) {
	switch cmp.Compare(pos, s.order[0]) {
	case -1:
		return 0, s.earlier
	case 0:
		return s.earlier, len(s.sets)
	}
	return 0, len(s.sets)
}
