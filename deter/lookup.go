package deter

import (
	"boskage/api"
	"boskage/bitset"
	"boskage/rule"
	"cmp"
	"slices"
)

// base is the base of the codes of lists of states.
const base = api.MaxStates

// row contains the states To of the rules with a list of states. The code of
// the list has one digit for each state.
type row struct {
	code int
	to   bitset.Set
}

// lookup finds the rules with a symbol that agree with sets of states, which
// are chosen for one position after the other, in the given order.
type lookup struct {
	sym   int
	order []int
	rows  []row
}

// newLookup returns the lookup for the groups of a symbol that begins with a
// position. The state there becomes the least digit of the codes, so that rows
// that only differ in it are next to each other in the order of codes.
func newLookup(sym, rank, first int, groups []*rule.Group) lookup {
	l := lookup{sym: sym, order: []int{first}}
	for pos := range rank {
		if pos != first {
			l.order = append(l.order, pos)
		}
	}
	for _, group := range groups {
		code := 0
		for _, pos := range slices.Backward(l.order) {
			code = code*base + group.Head.From[pos]
		}
		l.rows = append(l.rows, row{code, group.To})
	}
	slices.SortFunc(l.rows, func(x, y row) int { return cmp.Compare(x.code, y.code) })
	return l
}

// restrict returns the rows whose least digit is in a set, without this digit.
// Rows that become the same are united: this bounds their number, even where a
// set contains many states.
func restrict(rows []row, set *bitset.Set) []row {
	var kept []row
	for i := range rows {
		code := rows[i].code / base
		if !set.Has(rows[i].code % base) {
			continue
		}
		if last := len(kept) - 1; last >= 0 && kept[last].code == code {
			kept[last].to.Unite(&rows[i].to)
		} else {
			kept = append(kept, row{code, rows[i].to})
		}
	}
	return kept
}
