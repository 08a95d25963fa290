package trans

import (
	"boskage/api"
	"boskage/bitset"
	"boskage/explore"
	"boskage/side"
	"boskage/topdown"
)

// duty is what a tree must meet if an output is to be defined: it is accepted
// from a state of Domain, and the called states have outputs for it.
type duty struct {
	state  int
	called bitset.Set
}

// calls contains what a rule calls: for each subtree the states that are called
// for it. Rule is false if there is no rule.
type calls struct {
	rule bool
	kids [api.MaxRank]bitset.Set
}

// Domain returns the minimal automaton of the trees with a defined output.
func Domain(tr api.Transducer) (api.Topdown, api.Errno) {
	if !Valid(tr) {
		return api.Topdown{}, api.ErrArg
	}
	d, e := topdown.Minimal(tr.In, tr.Domain)
	if e != api.OK || d.States == 0 {
		return d, e
	}
	table := tableOfCalls(tr)
	start := duty{state: d.Start}
	for call := range side.Calls(tr.Axiom) {
		start.called.Add(call.State)
	}
	domain, e := explore.Topdown(tr.In, start, func(from duty, sym int) []duty {
		return dutiesBelow(d.Next[from.state][sym], from.called, sym, table)
	})
	if e != api.OK {
		return api.Topdown{}, e
	}
	return topdown.Minimal(tr.In, domain)
}

// tableOfCalls returns what the rules of tr call, by states and symbols.
func tableOfCalls(tr api.Transducer) [][]calls {
	table := make([][]calls, tr.States)
	for state, row := range tr.Rules {
		table[state] = make([]calls, len(row))
		for sym, sides := range row {
			for _, x := range sides {
				c := &table[state][sym]
				c.rule = true
				for call := range side.Calls(x) {
					c.kids[call.Kid].Add(call.State)
				}
			}
		}
	}
	return table
}

// dutiesBelow returns the duties of the subtrees of a node with a symbol, if the
// transition of Domain leads to next and the given states are called. It returns
// nil if the node cannot meet its duty.
func dutiesBelow(next []int, called bitset.Set, sym int, table [][]calls) []duty {
	if next == nil {
		return nil
	}
	duties := make([]duty, len(next))
	for i, state := range next {
		duties[i].state = state
	}
	for _, state := range called.List() {
		c := &table[state][sym]
		if !c.rule {
			return nil
		}
		for i := range duties {
			duties[i].called.Unite(&c.kids[i])
		}
	}
	return duties
}
