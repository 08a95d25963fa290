package topdown

import (
	"boskage/api"
	"boskage/explore"
)

// pair is a state of one automaton with a state of another one.
type pair [2]int

// Meet returns an automaton that accepts the trees that d and e accept.
func Meet(al api.Alphabet, d, e api.Topdown) (api.Topdown, api.Errno) {
	left, err := Trim(al, d)
	if err != api.OK {
		return api.Topdown{}, err
	}
	right, err := Trim(al, e)
	if err != api.OK {
		return api.Topdown{}, err
	}
	if left.Start == nothing || right.Start == nothing {
		return api.Topdown{Start: nothing}, api.OK
	}
	both, err := explore.Topdown(al, pair{left.Start, right.Start}, func(from pair, sym int) []pair {
		return pairs(left.Next[from[0]][sym], right.Next[from[1]][sym])
	})
	if err != api.OK {
		return api.Topdown{}, err
	}
	return Trim(al, both)
}

// pairs returns the pairs of states to which two transitions lead, or nil if
// there are not both.
func pairs(left, right []int) []pair {
	if left == nil || right == nil {
		return nil
	}
	list := make([]pair, len(left))
	for i := range left {
		list[i] = pair{left[i], right[i]}
	}
	return list
}
