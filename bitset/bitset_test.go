package bitset_test

import (
	"boskage/api"
	"boskage/bitset"
	"slices"
	"testing"
)

func TestSet(t *testing.T) {
	lists := [][]int{nil, {0}, {63}, {64}, {0, 63, 64, 65, 128, 299}, {1, 2, 3}}
	for _, list := range lists {
		set := bitset.Of(list...)
		if !slices.Equal(set.List(), list) {
			t.Errorf("%v: %v", list, set.List())
		}
		for state := range api.MaxStates {
			if set.Has(state) != slices.Contains(list, state) {
				t.Errorf("%v: wrong for %d", list, state)
			}
		}
		for _, other := range lists {
			second := bitset.Of(other...)
			meets := slices.ContainsFunc(list, func(state int) bool { return slices.Contains(other, state) })
			if set.Meets(&second) != meets {
				t.Errorf("%v meets %v", list, other)
			}
			within := !slices.ContainsFunc(list, func(state int) bool { return !slices.Contains(other, state) })
			if set.Within(&second) != within {
				t.Errorf("%v within %v", list, other)
			}
			second.Unite(&set)
			union := slices.Concat(list, other)
			slices.Sort(union)
			if !slices.Equal(second.List(), slices.Compact(union)) {
				t.Errorf("%v and %v: %v", list, other, second.List())
			}
		}
	}
	if bitset.Of(3, 70, 3) != bitset.Of(70, 3) {
		t.Error("equal sets differ")
	}
}

func TestAll(t *testing.T) {
	var set bitset.Set
	for state := range api.MaxStates {
		set.Add(state)
	}
	if list := set.List(); len(list) != api.MaxStates || list[299] != 299 {
		t.Errorf("%v", list)
	}
}
