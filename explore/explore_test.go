package explore_test

import (
	"boskage/api"
	"boskage/explore"
	"boskage/sample"
	"testing"
)

func TestTopdown(t *testing.T) {
	al := api.Alphabet{Ranks: []int{0, 2}}
	d, e := explore.Topdown(al, "ab", func(from string, sym int) []string {
		switch {
		case sym == 0 && from == "b":
			return []string{}
		case sym == 1 && from != "":
			return []string{from[1:], "b"}
		}
		return nil
	})
	want := api.Topdown{States: 3, Start: 0, Next: [][][]int{{nil, {1, 1}}, {{}, {2, 1}}, {nil, nil}}}
	if e != api.OK || !sample.EqualTopdowns(d, want) {
		t.Errorf("%s, error %d", sample.ShowTopdown(d), e)
	}
}

func TestTopdownAtTheLimit(t *testing.T) {
	al := api.Alphabet{Ranks: []int{1}}
	for _, states := range []int{1, api.MaxStates, api.MaxStates + 1} {
		d, e := explore.Topdown(al, 1, func(from, sym int) []int {
			return []int{min(from+1, states)}
		})
		switch {
		case states <= api.MaxStates && (e != api.OK || d.States != states || len(d.Next) != states):
			t.Errorf("%d states: got %d, error %d", states, d.States, e)
		case states > api.MaxStates && (e != api.ErrFull || d.States != 0 || d.Next != nil):
			t.Errorf("%d states: got %d, error %d", states, d.States, e)
		}
	}
}
