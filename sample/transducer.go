package sample

import (
	"boskage/api"
	"slices"
	"strconv"
)

// Exchange returns the transducer over a (rank 0) and f (rank 2) that exchanges
// all subtrees.
func Exchange() api.Transducer {
	al := api.Alphabet{Ranks: []int{0, 2}}
	return api.Transducer{
		In: al, Out: al, States: 1, Domain: EverythingTopdown(al), Axiom: Call(0, 0),
		Rules: [][][]api.Out{{{Side(0)}, {Side(1, Call(0, 1), Call(0, 0))}}},
	}
}

// Doubling returns the transducer from chains of g (rank 1) above a (rank 0) to
// full binary trees of f above a. It has a state that is not called.
func Doubling() api.Transducer {
	in, out := api.Alphabet{Ranks: []int{0, 1}}, api.Alphabet{Ranks: []int{0, 2}}
	return api.Transducer{
		In: in, Out: out, States: 2, Domain: EverythingTopdown(in), Axiom: Call(0, 0),
		Rules: [][][]api.Out{{{Side(0)}, {Side(1, Call(0, 0), Call(0, 0))}}, {nil, nil}},
	}
}

// Sizing returns a transducer from chains over a, b (rank 0), g, h (rank 1) to
// trees over a, s (rank 1), f (rank 2): g stands for s, h for f with two equal
// subtrees, and nothing for b.
func Sizing() api.Transducer {
	in, out := api.Alphabet{Ranks: []int{0, 0, 1, 1}}, api.Alphabet{Ranks: []int{0, 1, 2}}
	return api.Transducer{
		In: in, Out: out, States: 1, Domain: EverythingTopdown(in), Axiom: Call(0, 0),
		Rules: [][][]api.Out{{{Side(0)}, nil, {Side(1, Call(0, 0))}, {Side(2, Call(0, 0), Call(0, 0))}}},
	}
}

// Sized returns the tree for which the output of Sizing has n nodes. With another
// leaf than 0 there is no output.
func Sized(n, leaf int) api.Tree {
	switch {
	case n == 1:
		return Tree(leaf)
	case n%2 == 0:
		return Tree(2, Sized(n-1, leaf))
	}
	return Tree(3, Sized((n-1)/2, leaf))
}

// Duties returns a transducer with the given numbers of states and of states of
// Domain, both from 1, for which each set of states is called for some subtree,
// beside each state of Domain, and no two of these accept the same subtrees. The
// input has two symbols of rank 0 and then five of rank 1.
func Duties(states, domain int) api.Transducer {
	in, out := api.Alphabet{Ranks: []int{0, 0, 1, 1, 1, 1, 1}}, api.Alphabet{Ranks: []int{0, 2}}
	tr := api.Transducer{In: in, Out: out, States: states, Domain: api.Topdown{States: domain}, Axiom: Call(0, 0)}
	for d := range domain {
		same := []int{d}
		row := [][]int{nil, nil, same, slices.Clone(same), slices.Clone(same), slices.Clone(same), {(d + 1) % domain}}
		if d == 0 {
			row[0], row[1] = []int{}, []int{}
		}
		tr.Domain.Next = append(tr.Domain.Next, row)
	}
	for state := range states {
		other := state
		if state < 2 && states > 1 {
			other = 1 - state
		}
		row := make([][]api.Out, 7)
		for sym, x := range []api.Out{Side(0), Side(0), Call((state+1)%states, 0), Call(other, 0), Call(state, 0), Call(state, 0), Call(state, 0)} {
			row[sym] = []api.Out{x}
		}
		if state == 0 {
			row[1], row[4], row[5] = nil, []api.Out{Side(1, Call(0, 0), Call(1%states, 0))}, []api.Out{Side(0)}
		}
		tr.Rules = append(tr.Rules, row)
	}
	return tr
}

// Transducer makes a transducer with a number of states, with a few states of
// Domain, and with right-hand sides of at most so many nodes. If linear is true,
// it is linear.
func Transducer(s *Source, in, out api.Alphabet, states, nodes int, linear bool) api.Transducer {
	tr := api.Transducer{In: in, Out: out, States: states, Domain: EverythingTopdown(in)}
	if s.Below(3) > 0 {
		tr.Domain = Topdown(s, in, 1+s.Below(3))
	}
	m := maker{source: s, out: out, states: states, linear: linear}
	axiom, ok := m.make(1, nodes)
	if !ok {
		tr.Out = api.Alphabet{Ranks: []int{0}}
		axiom = Side(0)
	}
	tr.Axiom = axiom
	m.out = tr.Out
	for range states {
		row := make([][]api.Out, len(in.Ranks))
		for sym, rank := range in.Ranks {
			x, ok := m.make(rank, nodes)
			if ok && s.Below(5) > 0 {
				row[sym] = []api.Out{x}
			}
		}
		tr.Rules = append(tr.Rules, row)
	}
	return tr
}

// Transducers returns transducers of many kinds from trees over in to trees over
// out (or over another alphabet, if there are none over this one).
func Transducers(in, out api.Alphabet) []api.Transducer {
	var s Source
	var list []api.Transducer
	for states := range 4 {
		for i := range 3*states + 2 {
			list = append(list, Transducer(&s, in, out, states, 1+s.Below(6), i%3 == 0))
		}
	}
	return list
}

// ForTransducers calls f with transducers between alphabets of many kinds, and
// with all small trees over the input alphabet.
func ForTransducers(f func(tr api.Transducer, trees []api.Tree)) {
	for _, in := range Alphabets() {
		trees := Trees(in)
		for _, out := range []api.Alphabet{{}, {Ranks: []int{0}}, {Ranks: []int{2, 1}}, {Ranks: []int{0, 2}}, {Ranks: []int{1, 0, 0}}, {Ranks: []int{0, 1, 2, 3}}} {
			for _, tr := range Transducers(in, out) {
				f(tr, trees)
			}
		}
	}
}

// LargeTransducer makes a transducer over symbols of all ranks that is as large
// as possible.
func LargeTransducer() api.Transducer {
	var s Source
	al := api.Alphabet{Ranks: []int{0, 1, 2, 3, 0, 1, 2, 3, 0, 1, 2, 3}}
	tr := api.Transducer{In: al, Out: al, States: api.MaxStates, Domain: Topdown(&s, al, api.MaxStates)}
	m := maker{source: &s, out: al, states: api.MaxStates}
	tr.Axiom = m.large(1)
	for range tr.States {
		var row [][]api.Out
		for _, rank := range al.Ranks {
			row = append(row, []api.Out{m.large(rank)})
		}
		tr.Rules = append(tr.Rules, row)
	}
	return tr
}

// BadTransducers returns transducers that are not valid.
func BadTransducers() []api.Transducer {
	good := Exchange()
	var bad []api.Transducer
	with := func(change func(tr *api.Transducer)) {
		tr := CopyTransducer(good)
		change(&tr)
		bad = append(bad, tr)
	}
	for _, al := range append(BadAlphabets(), api.Alphabet{Ranks: []int{0}}, api.Alphabet{Ranks: []int{0, 1}}, api.Alphabet{}) {
		with(func(tr *api.Transducer) { tr.In = al })
		with(func(tr *api.Transducer) { tr.Out = al })
	}
	for _, states := range []int{-1, 0, 2, api.MaxStates + 1, 1 << 40, -1 << 63} {
		with(func(tr *api.Transducer) { tr.States = states })
	}
	with(func(tr *api.Transducer) {
		tr.States, tr.Rules = api.MaxStates+1, slices.Repeat(tr.Rules, api.MaxStates+1)
	})
	for _, d := range BadTopdowns(good.In) {
		with(func(tr *api.Transducer) { tr.Domain = d })
	}
	for _, x := range BadSides(good.Out, good.States, 1) {
		with(func(tr *api.Transducer) { tr.Axiom = x })
	}
	for sym, rank := range good.In.Ranks {
		for _, x := range BadSides(good.Out, good.States, rank) {
			with(func(tr *api.Transducer) { tr.Rules[0][sym] = []api.Out{x} })
		}
		with(func(tr *api.Transducer) { tr.Rules[0][sym] = []api.Out{Side(0), Side(0)} })
		with(func(tr *api.Transducer) { tr.Rules[0][sym] = make([]api.Out, 1000) })
	}
	with(func(tr *api.Transducer) { tr.Rules = nil })
	with(func(tr *api.Transducer) { tr.Rules[0] = nil })
	with(func(tr *api.Transducer) { tr.Rules[0] = tr.Rules[0][:1] })
	with(func(tr *api.Transducer) { tr.Rules[0] = append(tr.Rules[0], nil) })
	with(func(tr *api.Transducer) { tr.Rules = append(tr.Rules, tr.Rules[0]) })
	return append(bad, api.Transducer{})
}

// CopyTransducer copies a transducer with all its memory.
func CopyTransducer(tr api.Transducer) api.Transducer {
	tr.In, tr.Out = api.Alphabet{Ranks: slices.Clone(tr.In.Ranks)}, api.Alphabet{Ranks: slices.Clone(tr.Out.Ranks)}
	tr.Domain, tr.Axiom, tr.Rules = CopyTopdown(tr.Domain), copySide(tr.Axiom), slices.Clone(tr.Rules)
	for state, row := range tr.Rules {
		tr.Rules[state] = slices.Clone(row)
		for sym, sides := range row {
			tr.Rules[state][sym] = slices.Clone(sides)
			for i, x := range sides {
				tr.Rules[state][sym][i] = copySide(x)
			}
		}
	}
	return tr
}

// EqualTransducers reports whether two transducers are the same, where an empty
// list equals nil, except for the transitions of Domain.
func EqualTransducers(a, b api.Transducer) bool {
	equalRows := func(x, y [][]api.Out) bool {
		return slices.EqualFunc(x, y, func(l, r []api.Out) bool { return slices.EqualFunc(l, r, EqualSides) })
	}
	return slices.Equal(a.In.Ranks, b.In.Ranks) && slices.Equal(a.Out.Ranks, b.Out.Ranks) && a.States == b.States &&
		EqualTopdowns(a.Domain, b.Domain) && EqualSides(a.Axiom, b.Axiom) && slices.EqualFunc(a.Rules, b.Rules, equalRows)
}

// ShareTransducers reports whether two lists in the transducers share memory, up
// to their capacities.
func ShareTransducers(transducers ...api.Transducer) bool {
	numbers, rows, lists := map[*int]bool{}, map[*[][]api.Out]bool{}, map[*[]api.Out]bool{}
	var sides []api.Out
	var domains []api.Topdown
	shared := false
	for _, tr := range transducers {
		shared = AddNew(numbers, tr.In.Ranks) || shared
		shared = AddNew(numbers, tr.Out.Ranks) || shared
		shared = AddNew(rows, tr.Rules) || shared
		sides, domains = append(sides, tr.Axiom), append(domains, tr.Domain)
		for _, row := range tr.Rules {
			shared = AddNew(lists, row) || shared
			for _, list := range row {
				sides = append(sides, api.Out{Kids: list})
			}
		}
	}
	return share(sides, func(x api.Out) []api.Out { return x.Kids }) || ShareTopdowns(domains...) || shared
}

// ShowTransducer describes a transducer, in a few words if it is large.
func ShowTransducer(tr api.Transducer) string {
	text := "(in" + showNumbers(tr.In.Ranks) + ", out" + showNumbers(tr.Out.Ranks) + ", " + strconv.Itoa(tr.States) + " states, domain "
	text += ShowTopdown(tr.Domain)
	if tr.States > 12 {
		return text + ")"
	}
	text += ", axiom " + showSide(tr.Axiom)
	for state, row := range tr.Rules {
		for sym, sides := range row {
			for _, x := range sides {
				text += "; " + strconv.Itoa(state) + " " + strconv.Itoa(sym) + ": " + showSide(x)
			}
		}
	}
	return text + ")"
}
