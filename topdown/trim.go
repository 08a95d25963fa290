package topdown

import (
	"boskage/api"
	"boskage/auto"
	"boskage/work"
)

// Trim returns the trim automaton with the language of d, in order.
func Trim(al api.Alphabet, d api.Topdown) (api.Topdown, api.Errno) {
	a, e := Auto(al, d)
	if e != api.OK {
		return api.Topdown{}, e
	}
	accepting, e := auto.Reachable(al, a)
	if e != api.OK {
		return api.Topdown{}, e
	}
	if d.Start == nothing || !accepting[d.Start] {
		return api.Topdown{Start: nothing}, api.OK
	}
	return explore(al, d.Start, func(state, sym int) []int {
		kids := d.Next[state][sym]
		for _, kid := range kids {
			if !accepting[kid] {
				return nil
			}
		}
		return kids
	})
}

// explore returns the automaton whose states stand for start and for what can
// be reached from it, in order: next returns what stands for the subtrees, or
// nil if there is no transition. It returns ErrFull if there are too many.
func explore[K comparable](al api.Alphabet, start K, next func(from K, sym int) []K) (api.Topdown, api.Errno) {
	var found work.List[K]
	numbers := map[K]int{}
	numberOf := func(key K) int {
		number, known := numbers[key]
		if !known {
			number = len(numbers)
			numbers[key] = number
			found.Add(key)
		}
		return number
	}
	d := api.Topdown{Start: numberOf(start)}
	for key := range found.All() {
		row := make([][]int, len(al.Ranks))
		for sym := range row {
			kids := next(key, sym)
			if kids == nil {
				continue
			}
			row[sym] = make([]int, len(kids))
			for i, kid := range kids {
				row[sym][i] = numberOf(kid)
			}
		}
		d.Next = append(d.Next, row)
		if len(numbers) > api.MaxStates {
			return api.Topdown{}, api.ErrFull
		}
	}
	d.States = len(d.Next)
	return d, api.OK
}
