package sample

import (
	"boskage/api"
	"slices"
	"strconv"
)

// Topdown makes a top-down automaton over al with a number of states, of which
// each has about two thirds of the transitions.
func Topdown(s *Source, al api.Alphabet, states int) api.Topdown {
	d := api.Topdown{States: states, Start: -1}
	if states > 0 {
		d.Start = s.Below(states)
	}
	for range states {
		row := make([][]int, len(al.Ranks))
		for sym, rank := range al.Ranks {
			if s.Below(3) > 0 {
				row[sym] = make([]int, rank)
				for i := range rank {
					row[sym][i] = s.Below(states)
				}
			}
		}
		d.Next = append(d.Next, row)
	}
	return d
}

// Topdowns returns top-down automata over al of many kinds: with 0 to 5 states,
// and some without a start.
func Topdowns(al api.Alphabet) []api.Topdown {
	var s Source
	list := []api.Topdown{{Start: -1}, EverythingTopdown(al)}
	for states := range 6 {
		for i := range 2*states + 3 {
			d := Topdown(&s, al, states)
			if i == 0 {
				d.Start = -1
			}
			list = append(list, d)
		}
	}
	return list
}

// EverythingTopdown returns a top-down automaton that accepts all trees over al.
func EverythingTopdown(al api.Alphabet) api.Topdown {
	row := make([][]int, len(al.Ranks))
	for sym, rank := range al.Ranks {
		row[sym] = make([]int, rank)
	}
	return api.Topdown{States: 1, Next: [][][]int{row}}
}

// CycleTopdown returns a top-down automaton over a (rank 0) and g (rank 1) that
// accepts the trees in which the number of nodes is 1 modulo n. From state s,
// those are accepted in which it is 1 - s modulo n.
func CycleTopdown(n int) api.Topdown {
	d := api.Topdown{States: n}
	for state := range n {
		d.Next = append(d.Next, [][]int{nil, {(state + 1) % n}})
	}
	d.Next[0][0] = []int{}
	return d
}

// BadTopdowns returns top-down automata that are not valid over al.
func BadTopdowns(al api.Alphabet) []api.Topdown {
	row := func() [][]int { return make([][]int, len(al.Ranks)) }
	rows := func(n int) [][][]int {
		var list [][][]int
		for range n {
			list = append(list, row())
		}
		return list
	}
	bad := []api.Topdown{
		{},
		{States: -1, Start: -1},
		{States: 1 << 62, Start: -1},
		{States: 1 << 62},
		{States: api.MaxStates + 1, Next: rows(api.MaxStates + 1)},
		{States: 1, Next: nil},
		{States: 1, Next: rows(2)},
		{States: 2, Next: rows(1)},
		{States: 0, Start: -1, Next: rows(1)},
		{States: 2, Start: 2, Next: rows(2)},
		{States: 2, Start: -2, Next: rows(2)},
		{States: 2, Start: 1 << 62, Next: rows(2)},
		{States: 2, Next: [][][]int{row(), append(row(), nil)}},
		{States: 2, Start: -1, Next: [][][]int{row(), make([][]int, 1<<12)}},
	}
	if len(al.Ranks) > 0 {
		bad = append(bad, api.Topdown{States: 2, Next: [][][]int{row(), row()[1:]}}, api.Topdown{States: 1, Next: [][][]int{nil}})
	}
	for sym, rank := range al.Ranks {
		with := func(kids []int) {
			d := api.Topdown{States: 2, Start: -1, Next: rows(2)}
			d.Next[1][sym] = kids
			bad = append(bad, d)
		}
		with(make([]int, rank+1))
		with(make([]int, 1<<16))
		for i := range rank {
			low, high := make([]int, rank), make([]int, rank)
			low[i], high[i] = -1, 2
			with(low)
			with(high)
			with(make([]int, i))
		}
	}
	return bad
}

// BadTopdownArguments calls f with alphabets and top-down automata of which one
// is not valid.
func BadTopdownArguments(f func(al api.Alphabet, d api.Topdown)) {
	for _, al := range BadAlphabets() {
		f(al, api.Topdown{Start: -1})
		f(al, api.Topdown{States: 1, Next: [][][]int{make([][]int, len(al.Ranks))}})
	}
	for _, al := range Alphabets() {
		for _, d := range BadTopdowns(al) {
			f(al, d)
		}
	}
}

// AcceptsFrom reports whether t is accepted from state s of d.
func AcceptsFrom(d api.Topdown, s int, t api.Tree) bool {
	kids := d.Next[s][t.Sym]
	accepted := kids != nil
	for i, kid := range kids {
		accepted = accepted && AcceptsFrom(d, kid, t.Kids[i])
	}
	return accepted
}

// TopdownAccepts reports whether d accepts t.
func TopdownAccepts(d api.Topdown, t api.Tree) bool {
	return d.Start >= 0 && AcceptsFrom(d, d.Start, t)
}

// EqualTopdowns reports whether two automata are the same, where no transition
// is not the same as one to no states.
func EqualTopdowns(d, e api.Topdown) bool {
	return d.States == e.States && d.Start == e.Start && slices.EqualFunc(d.Next, e.Next, func(x, y [][]int) bool {
		return slices.EqualFunc(x, y, func(k, l []int) bool { return (k == nil) == (l == nil) && slices.Equal(k, l) })
	})
}

// CopyTopdown returns a copy of d.
func CopyTopdown(d api.Topdown) api.Topdown {
	c := api.Topdown{States: d.States, Start: d.Start}
	for _, row := range d.Next {
		var rows [][]int
		for _, kids := range row {
			rows = append(rows, slices.Clone(kids))
		}
		c.Next = append(c.Next, rows)
	}
	return c
}

// ShareTopdowns reports whether two lists in the automata share memory, up to
// their capacities.
func ShareTopdowns(automata ...api.Topdown) bool {
	rows, lists, numbers := map[*[][]int]bool{}, map[*[]int]bool{}, map[*int]bool{}
	shared := false
	for _, d := range automata {
		shared = AddNew(rows, d.Next) || shared
		for _, row := range d.Next {
			shared = AddNew(lists, row) || shared
			for _, kids := range row {
				shared = AddNew(numbers, kids) || shared
			}
		}
	}
	return shared
}

// ShowTopdown describes a top-down automaton, in a few words if it is large.
func ShowTopdown(d api.Topdown) string {
	text := "(" + strconv.Itoa(d.States) + " states, start " + strconv.Itoa(d.Start)
	if d.States > 12 {
		return text + ")"
	}
	for state, row := range d.Next {
		for sym, kids := range row {
			if kids != nil {
				text += "; " + strconv.Itoa(state) + " " + strconv.Itoa(sym) + ":" + showNumbers(kids)
			}
		}
	}
	return text + ")"
}
