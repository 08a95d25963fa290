// Package rule provides the layers with ways to compare, copy and look up the
// rules of automata. Its functions expect valid automata.
package rule

import (
	"boskage/api"
	"boskage/bitset"
	"cmp"
	"slices"
)

// Compare orders rules by symbol, From and To.
func Compare(a, b api.Rule) int {
	return cmp.Or(cmp.Compare(a.Sym, b.Sym), slices.Compare(a.From, b.From), cmp.Compare(a.To, b.To))
}

// Copy returns a copy of a that shares no memory with it.
func Copy(a api.Automaton) api.Automaton {
	rules := slices.Clone(a.Rules)
	for i, r := range rules {
		rules[i].From = slices.Clone(r.From)
	}
	return api.Automaton{States: a.States, Final: slices.Clone(a.Final), Rules: rules}
}

// FullNumber returns the number of all symbols with a list of as many of the
// states as their rank.
func FullNumber(al api.Alphabet, states int) int {
	number := 0
	for _, rank := range al.Ranks {
		lists := 1
		for range rank {
			lists *= states
		}
		number += lists
	}
	return number
}

// Head is what a rule says of the node and its subtrees: a symbol, and a state
// for each subtree. Further elements of From are 0.
type Head struct {
	Sym  int
	From [api.MaxRank]int
}

// HeadOf returns the head with a symbol and a list of states.
func HeadOf(sym int, from []int) Head {
	head := Head{Sym: sym}
	copy(head.From[:], from)
	return head
}

// Group stands for all rules with one head: To contains their states To.
type Group struct {
	Head Head
	To   bitset.Set
}

// Table contains the rules of an automaton by their heads.
type Table struct {
	groups [][]*Group
	index  map[Head]*Group
}

// NewTable returns the table of the rules of a.
func NewTable(al api.Alphabet, a api.Automaton) *Table {
	t := &Table{groups: make([][]*Group, len(al.Ranks)), index: map[Head]*Group{}}
	for _, r := range a.Rules {
		head := HeadOf(r.Sym, r.From)
		group := t.index[head]
		if group == nil {
			group = &Group{Head: head}
			t.index[head] = group
			t.groups[r.Sym] = append(t.groups[r.Sym], group)
		}
		group.To.Add(r.To)
	}
	return t
}

// Heads returns the number of different heads.
func (t *Table) Heads() int {
	return len(t.index)
}

// Groups returns the groups of a symbol, in the order of their first rules.
// The caller does not change them.
func (t *Table) Groups(sym int) []*Group {
	return t.groups[sym]
}

// Targets returns the states To of the rules with a head.
func (t *Table) Targets(head Head) bitset.Set {
	if group := t.index[head]; group != nil {
		return group.To
	}
	return bitset.Set{}
}
