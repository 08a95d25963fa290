package query

import (
	"boskage/api"
	"boskage/work"
)

const (
	// mostSize is the size of a question up to which it is always answered.
	mostSize = 20000
	// mostJoins is the number of joins after which a question of a greater size
	// is given up.
	mostJoins = 1 << 22
	// tooLarge stands for all sizes of hedges above MaxSize.
	tooLarge = api.MaxSize + 1
)

// kind is what counts of a hedge: a state that the automaton of the schema can
// assign to its encoding, and its truth values.
type kind struct {
	state  int
	truths truths
}

// recipe says how to make a hedge of some kind: of a tree with a label, whose
// children are a hedge of a kind, and of siblings that are a hedge of a kind. Own
// is marked if the root of the tree is the marked node. The hedge without trees
// has the size 0.
type recipe struct {
	size, label        int
	own                truths
	children, siblings int
}

// search looks for smallest hedges of all kinds. A kind is settled when its
// recipe is for one of the smallest hedges.
type search struct {
	*machine
	a    api.Automaton
	mark truths
	// below contains the rules with a state for the children, and beside those
	// with a state for the siblings.
	below, beside [][]api.Rule
	kinds         work.Numbering[kind]
	recipes       []recipe
	// found contains for each size the kinds that got a recipe for it and are
	// not settled.
	found [tooLarge + 1][]int
	// settled contains for each state the kinds with it that are settled.
	settled [][]int
	joins   int
}

func newSearch(a api.Automaton, m *machine, mark truths) *search {
	s := &search{machine: m, a: a, mark: mark}
	s.below, s.beside = make([][]api.Rule, a.States), make([][]api.Rule, a.States)
	s.settled = make([][]int, a.States)
	for _, r := range a.Rules {
		if len(r.From) == 0 {
			s.offer(kind{state: r.To}, recipe{})
			continue
		}
		children, siblings := r.From[0], r.From[1]
		s.below[children] = append(s.below[children], r)
		s.beside[siblings] = append(s.beside[siblings], r)
	}
	return s
}

// offer gives a kind a recipe, unless it has one that is as good.
func (s *search) offer(k kind, r recipe) {
	number := s.kinds.Of(k)
	if number == len(s.recipes) {
		s.recipes = append(s.recipes, r)
	} else if r.size < s.recipes[number].size {
		s.recipes[number] = r
	} else {
		return
	}
	s.found[r.size] = append(s.found[r.size], number)
}

// run returns a kind that fits and has a smallest hedge. It returns ErrNone if
// there is none, and ErrFull if the hedge is too large or if the search takes too
// long.
//
// Each round settles one kind. As a hedge is larger than those of which it is
// made, a kind with the least size among those that are not settled has its best
// recipe. (Hedges that are too large count as equally large: of these, only the
// kinds matter.)
func (s *search) run(fits func(k kind) bool) (int, api.Errno) {
	size := 0
rounds:
	for !s.takesTooLong() {
		for ; size <= tooLarge; size++ {
			number, some := s.take(size)
			if !some {
				continue
			}
			if !fits(s.kinds.Key(number)) {
				s.settle(number)
				continue rounds
			}
			if size == tooLarge {
				break rounds
			}
			return number, api.OK
		}
		return 0, api.ErrNone
	}
	return 0, api.ErrFull
}

// takesTooLong reports whether the search is to be given up.
func (s *search) takesTooLong() bool {
	sizeOfQuestion := (2 << (2 * len(s.steps))) * s.a.States
	return s.joins > mostJoins && sizeOfQuestion > mostSize
}

// take removes a kind from those that are found for a size, without those that
// have a better recipe now. It returns false if there is none.
func (s *search) take(size int) (int, bool) {
	for len(s.found[size]) > 0 {
		number := s.found[size][0]
		s.found[size] = s.found[size][1:]
		if s.recipes[number].size == size {
			return number, true
		}
	}
	return 0, false
}

// settle settles a kind and finds those of which it is a part, beside other ones
// that are settled.
func (s *search) settle(number int) {
	state := s.kinds.Key(number).state
	s.settled[state] = append(s.settled[state], number)
	for _, r := range s.below[state] {
		for _, siblings := range s.settled[r.From[1]] {
			s.joinBy(r, number, siblings)
		}
	}
	for _, r := range s.beside[state] {
		for _, children := range s.settled[r.From[0]] {
			s.joinBy(r, children, number)
		}
	}
}

// joinBy finds the kinds of hedges for which a rule is used at the first tree,
// with the kinds of its children and of its siblings.
func (s *search) joinBy(r api.Rule, children, siblings int) {
	s.joins++
	x, y := s.kinds.Key(children).truths, s.kinds.Key(siblings).truths
	if x&y&marked != 0 {
		return
	}
	size := min(1+s.recipes[children].size+s.recipes[siblings].size, tooLarge)
	made := recipe{size: size, label: r.Sym, children: children, siblings: siblings}
	s.offer(kind{r.To, s.join(r.Sym, 0, x, y)}, made)
	if s.mark == marked && (x|y)&marked == 0 {
		made.own = marked
		s.offer(kind{r.To, s.join(r.Sym, marked, x, y)}, made)
	}
}

// document returns the tree that is a smallest hedge of a kind, and its marked
// node (0 if there is none).
func (s *search) document(number int) (api.Node, int) {
	next, mark := 0, 0
	var hedgeOf func(number int) []api.Node
	hedgeOf = func(number int) []api.Node {
		var h []api.Node
		for r := s.recipes[number]; r.size > 0; r = s.recipes[r.siblings] {
			if r.own == marked {
				mark = next
			}
			next++
			h = append(h, api.Node{Label: r.label, Kids: hedgeOf(r.children)})
		}
		return h
	}
	return hedgeOf(number)[0], mark
}
