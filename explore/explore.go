// Package explore builds automata from what can be reached from a start.
package explore

import (
	"boskage/api"
	"boskage/work"
)

// Topdown returns the top-down automaton whose states stand for start and for
// what can be reached from it, numbered breadth first: next returns what stands
// for the subtrees, or nil if there is no transition. It returns ErrFull if there
// are too many.
func Topdown[K comparable](al api.Alphabet, start K, next func(from K, sym int) []K) (api.Topdown, api.Errno) {
	var found work.Numbering[K]
	d := api.Topdown{Start: found.Of(start)}
	for _, key := range found.All() {
		row := make([][]int, len(al.Ranks))
		for sym := range row {
			kids := next(key, sym)
			if kids == nil {
				continue
			}
			row[sym] = make([]int, len(kids))
			for i, kid := range kids {
				row[sym][i] = found.Of(kid)
			}
		}
		d.Next = append(d.Next, row)
		if found.Len() > api.MaxStates {
			return api.Topdown{}, api.ErrFull
		}
	}
	d.States = len(d.Next)
	return d, api.OK
}
