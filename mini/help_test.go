package mini_test

import (
	"boskage/api"
	"boskage/auto"
	"boskage/mini"
	"boskage/sample"
	"slices"
	"testing"
)

// sets is the complete deterministic automaton of all sets of states that an
// automaton assigns to trees, the empty one among them.
type sets struct {
	al   api.Alphabet
	list [][]int
	// to contains for each symbol the sets for all lists of sets, in
	// lexicographic order of these.
	to    [][]int
	final []bool
}

func setsOf(al api.Alphabet, a api.Automaton) *sets {
	s := &sets{al: al}
	for known := -1; known < len(s.list); {
		known = len(s.list)
		s.to = make([][]int, len(al.Ranks))
		for sym, rank := range al.Ranks {
			for _, from := range sample.Lists(rank, known) {
				kids := make([][]int, rank)
				for i, set := range from {
					kids[i] = s.list[set]
				}
				s.to[sym] = append(s.to[sym], s.number(sample.Targets(a, sym, kids)))
			}
		}
	}
	for _, set := range s.list {
		s.final = append(s.final, slices.ContainsFunc(set, func(state int) bool { return slices.Contains(a.Final, state) }))
	}
	return s
}

func (s *sets) number(set []int) int {
	for i, other := range s.list {
		if slices.Equal(set, other) {
			return i
		}
	}
	s.list = append(s.list, set)
	return len(s.list) - 1
}

// target returns the set for a symbol above a list of sets.
func (s *sets) target(sym int, from []int) int {
	code := 0
	for _, set := range from {
		code = code*len(s.list) + set
	}
	return s.to[sym][code]
}

// representatives returns for each set the first one whose trees are
// equivalent: there is no node above with trees beside that are not.
func (s *sets) representatives() []int {
	differ := map[[2]int]bool{}
	for i := range s.list {
		for j := range s.list {
			differ[[2]int{i, j}] = s.final[i] != s.final[j]
		}
	}
	for again := true; again; {
		again = false
		for pair, known := range differ {
			if !known && s.lead(pair, differ) {
				differ[pair], again = true, true
			}
		}
	}
	var first []int
	for i := range s.list {
		j := 0
		for differ[[2]int{i, j}] {
			j++
		}
		first = append(first, j)
	}
	return first
}

// lead reports whether some node above leads from a pair to one that differs.
func (s *sets) lead(pair [2]int, differ map[[2]int]bool) bool {
	for sym, rank := range s.al.Ranks {
		for pos := range rank {
			for _, beside := range sample.Lists(rank-1, len(s.list)) {
				i, j := s.target(sym, slices.Insert(slices.Clone(beside), pos, pair[0])), s.target(sym, slices.Insert(slices.Clone(beside), pos, pair[1]))
				if differ[[2]int{i, j}] {
					return true
				}
			}
		}
	}
	return false
}

// useful reports for each set whether its trees occur in trees that are
// accepted.
func (s *sets) useful() []bool {
	useful := slices.Clone(s.final)
	for again := true; again; {
		again = false
		for sym, rank := range s.al.Ranks {
			for _, from := range sample.Lists(rank, len(s.list)) {
				for _, set := range from {
					if useful[s.target(sym, from)] && !useful[set] {
						useful[set], again = true, true
					}
				}
			}
		}
	}
	return useful
}

// definition returns the minimal automaton, word for word.
func definition(al api.Alphabet, a api.Automaton) api.Automaton {
	s := setsOf(al, a)
	first, useful := s.representatives(), s.useful()
	var classes []int
	rules := func(classes []int, found func(sym int, from []int, to int)) {
		for sym, rank := range al.Ranks {
			for _, from := range sample.Lists(rank, len(classes)) {
				members := make([]int, rank)
				for i, class := range from {
					members[i] = classes[class]
				}
				if to := first[s.target(sym, members)]; useful[to] {
					found(sym, from, to)
				}
			}
		}
	}
	for earlier := -1; earlier < len(classes); {
		earlier = len(classes)
		rules(slices.Clone(classes), func(sym int, from []int, to int) {
			if !slices.Contains(classes, to) {
				classes = append(classes, to)
			}
		})
	}
	b := api.Automaton{States: len(classes)}
	for number, class := range classes {
		if s.final[class] {
			b.Final = append(b.Final, number)
		}
	}
	rules(classes, func(sym int, from []int, to int) {
		b.Rules = append(b.Rules, sample.Rule(sym, slices.Index(classes, to), from...))
	})
	return b
}

// forAutomata calls f with alphabets and automata over them.
func forAutomata(f func(al api.Alphabet, a api.Automaton)) {
	for _, al := range sample.Alphabets() {
		for _, a := range append(sample.Automata(al), api.Automaton{}, api.Automaton{States: 3, Final: []int{0, 1, 2}}, sample.Everything(al)) {
			f(al, a)
		}
	}
}

// renumbered returns a with its states in another order, and its rules too.
func renumbered(s *sample.Source, a api.Automaton) api.Automaton {
	order := make([]int, a.States)
	for i := range order {
		j := s.Below(i + 1)
		order[i], order[j] = order[j], i
	}
	b := api.Automaton{States: a.States}
	for _, state := range a.Final {
		b.Final = append(b.Final, order[state])
	}
	slices.Sort(b.Final)
	for _, r := range a.Rules {
		other := sample.Rule(r.Sym, order[r.To])
		for _, state := range r.From {
			other.From = append(other.From, order[state])
		}
		b.Rules = slices.Insert(b.Rules, s.Below(len(b.Rules)+1), other)
	}
	return b
}

// twofold returns an automaton with the language of a in which each state has a
// copy with the same trees: the number of the copy is greater by a.States.
func twofold(s *sample.Source, a api.Automaton) api.Automaton {
	b := sample.Copy(a)
	b.States *= 2
	for _, state := range a.Final {
		b.Final = append(b.Final, a.States+state)
	}
	b.Rules = nil
	for _, r := range a.Rules {
		for _, copies := range sample.Lists(len(r.From), 2) {
			other := sample.Rule(r.Sym, r.To+a.States*s.Below(2))
			for i, state := range r.From {
				other.From = append(other.From, state+a.States*copies[i])
			}
			b.Rules = append(b.Rules, other)
		}
	}
	return b
}

// checkAutomaton checks a result and its error.
func checkAutomaton(t *testing.T, what string, got api.Automaton, e api.Errno, want api.Automaton) {
	t.Helper()
	if e != api.OK || !sample.Equal(got, want) {
		t.Errorf("%s: got %s, error %d, want %s", what, sample.Show(got), e, sample.Show(want))
	}
}

// checkRefused checks a result that comes with an error.
func checkRefused(t *testing.T, what string, got api.Automaton, e, want api.Errno) {
	t.Helper()
	if e != want || !sample.Equal(got, api.Automaton{}) {
		t.Errorf("%s: got %s, error %d, want error %d", what, sample.Show(got), e, want)
	}
}

// checkSame checks the result of Same.
func checkSame(t *testing.T, al api.Alphabet, a, b api.Automaton, want bool) {
	t.Helper()
	same, e := mini.Same(al, a, b)
	if e != api.OK || same != want {
		t.Errorf("Same of %s and %s: %t, error %d, want %t", sample.Show(a), sample.Show(b), same, e, want)
	}
}

// minimal returns Minimal of a and checks that it is a valid deterministic
// automaton with the language of a, as far as the trees show.
func minimal(t *testing.T, al api.Alphabet, a api.Automaton, trees []api.Tree) api.Automaton {
	t.Helper()
	b, e := mini.Minimal(al, a)
	if e != api.OK || !auto.Valid(al, b) || !sample.Deterministic(b) {
		t.Errorf("Minimal of %s: %s, error %d", sample.Show(a), sample.Show(b), e)
		return b
	}
	for _, x := range trees {
		if sample.Accepts(a, x) != sample.Accepts(b, x) {
			t.Errorf("Minimal of %s: %s is wrong for %v", sample.Show(a), sample.Show(b), x)
			break
		}
	}
	return b
}
