package pre

import (
	"boskage/api"
	"boskage/bitset"
	"boskage/side"
	"boskage/work"
)

// called returns the states of tr that outputs can depend on: those that are
// called in the axiom, and by rules of such states.
func called(tr api.Transducer) bitset.Set {
	var found work.List[int]
	addAll := func(x api.Out) {
		for call := range side.Calls(x) {
			found.Add(call.State)
		}
	}
	addAll(tr.Axiom)
	var states bitset.Set
	for state := range found.All() {
		states.Add(state)
		for _, sides := range tr.Rules[state] {
			for _, x := range sides {
				addAll(x)
			}
		}
	}
	return states
}
