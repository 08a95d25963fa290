package topdown

import (
	"boskage/api"
	"boskage/auto"
	"boskage/explore"
)

// Trim returns the trim automaton with the language of d, in order.
func Trim(al api.Alphabet, d api.Topdown) (api.Topdown, api.Errno) {
	a, e := Auto(al, d)
	if e != api.OK {
		return api.Topdown{}, e
	}
	accepting, e := auto.Reachable(al, a)
	if e != api.OK {
		return api.Topdown{}, e
	}
	if d.Start == nothing || !accepting[d.Start] {
		return api.Topdown{Start: nothing}, api.OK
	}
	return explore.Topdown(al, d.Start, func(state, sym int) []int {
		kids := d.Next[state][sym]
		for _, kid := range kids {
			if !accepting[kid] {
				return nil
			}
		}
		return kids
	})
}
