package sample

import (
	"boskage/api"
	"slices"
	"strconv"
)

// Side makes an output node of a right-hand side.
func Side(sym int, kids ...api.Out) api.Out {
	return api.Out{Sym: sym, Kids: kids}
}

// Call makes a call.
func Call(state, kid int) api.Out {
	return api.Out{Call: true, State: state, Kid: kid}
}

// maker makes right-hand sides.
type maker struct {
	source *Source
	out    api.Alphabet
	states int
	linear bool
}

// make makes a right-hand side with at most so many nodes, or returns false if it
// finds none.
func (m *maker) make(kids, nodes int) (api.Out, bool) {
	var free []int
	for kid := range kids {
		free = append(free, kid)
	}
	return m.side(&free, 1+m.source.Below(nodes))
}

// side makes a right-hand side that calls states for the free subtrees.
func (m *maker) side(free *[]int, nodes int) (api.Out, bool) {
	var fitting []int
	for sym, rank := range m.out.Ranks {
		if rank < nodes && (rank > 0 || nodes == 1) {
			fitting = append(fitting, sym)
		}
	}
	calls := m.states > 0 && len(*free) > 0
	if calls && (len(fitting) == 0 || m.source.Below(4) > 0 && nodes == 1 || m.source.Below(6) == 0) {
		i := m.source.Below(len(*free))
		kid := (*free)[i]
		if m.linear {
			*free = slices.Delete(*free, i, i+1)
		}
		return Call(m.source.Below(m.states), kid), true
	}
	if len(fitting) == 0 {
		leaf := slices.Index(m.out.Ranks, 0)
		return Side(leaf), leaf >= 0
	}
	sym := fitting[m.source.Below(len(fitting))]
	x := Side(sym)
	for i := range m.out.Ranks[sym] {
		kid, ok := m.side(free, (nodes-1+i)/m.out.Ranks[sym])
		if !ok {
			return api.Out{}, false
		}
		x.Kids = append(x.Kids, kid)
	}
	return x, true
}

// large makes a right-hand side with MaxOut nodes: a chain of nodes of rank 2 or
// 3, each with calls beside the next one, if there is a subtree.
func (m *maker) large(kids int) api.Out {
	leaf := func() api.Out {
		if kids == 0 {
			return Side(4 * m.source.Below(3))
		}
		state := m.source.Below(m.states)
		return Call(state, m.source.Below(kids))
	}
	x := Side(1, leaf())
	x = Side(1, x)
	for range 12 {
		x = Side(3+4*m.source.Below(3), leaf(), x, leaf())
	}
	return Side(1, x)
}

// BadSides returns right-hand sides that are not valid over out, for a number of
// states and of subtrees.
func BadSides(out api.Alphabet, states, kids int) []api.Out {
	bad := []api.Out{
		Side(-1), Side(len(out.Ranks)), Side(1 << 40), Side(-1 << 63),
		Call(states, 0), Call(-1, 0), Call(1<<40, 0), Call(0, kids), Call(0, -1), Call(0, 1<<40),
		{Call: true, Sym: 1}, {Call: true, Sym: -1}, {Call: true, Kids: []api.Out{Side(0)}}, {Call: true, Kids: make([]api.Out, 1000)},
	}
	leaf := Side(slices.Index(out.Ranks, 0))
	for sym, rank := range out.Ranks {
		good := slices.Repeat([]api.Out{leaf}, rank)
		bad = append(bad,
			api.Out{State: 1, Sym: sym, Kids: good}, api.Out{State: -1, Sym: sym, Kids: good},
			api.Out{Kid: 1, Sym: sym, Kids: good}, api.Out{Kid: -1, Sym: sym, Kids: good},
			Side(sym, append([]api.Out{leaf}, good...)...), Side(sym, make([]api.Out, 1<<12)...),
		)
		for i := range good {
			below := slices.Clone(good)
			below[i] = Side(len(out.Ranks))
			bad = append(bad, Side(sym, good[:i]...), Side(sym, below...))
			below = slices.Clone(good)
			below[i] = Call(states, 0)
			bad = append(bad, Side(sym, below...))
		}
		if rank > 0 {
			bad = append(bad, ChainSide(api.MaxOut+1, sym, rank, leaf), ChainSide(100000, sym, rank, leaf), loop(sym, rank))
		}
	}
	return bad
}

// ChainSide makes a right-hand side of at least n nodes: nodes with a symbol one
// below the other, with leaves beside them.
func ChainSide(n, sym, rank int, leaf api.Out) api.Out {
	x := leaf
	for size := 1; size < n; size += rank {
		x = Side(sym, append(slices.Repeat([]api.Out{leaf}, rank-1), x)...)
	}
	return x
}

// loop makes a right-hand side that never ends.
func loop(sym, rank int) api.Out {
	kids := make([]api.Out, rank)
	for i := range kids {
		kids[i] = Side(sym, kids...)
	}
	return Side(sym, kids...)
}

func copySide(x api.Out) api.Out {
	x.Kids = slices.Clone(x.Kids)
	for i, kid := range x.Kids {
		x.Kids[i] = copySide(kid)
	}
	return x
}

// EqualSides reports whether two right-hand sides are the same, where an empty
// list equals nil.
func EqualSides(x, y api.Out) bool {
	return x.Call == y.Call && x.State == y.State && x.Kid == y.Kid && x.Sym == y.Sym && slices.EqualFunc(x.Kids, y.Kids, EqualSides)
}

func showSide(x api.Out) string {
	if x.Call {
		return "<" + strconv.Itoa(x.State) + " " + strconv.Itoa(x.Kid) + ">"
	}
	text := strconv.Itoa(x.Sym)
	for _, kid := range x.Kids {
		text += " (" + showSide(kid) + ")"
	}
	return text
}

// SizeOfSide returns the number of nodes of a right-hand side.
func SizeOfSide(x api.Out) int {
	nodes := 1
	for _, kid := range x.Kids {
		nodes += SizeOfSide(kid)
	}
	return nodes
}
