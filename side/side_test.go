package side_test

import (
	"boskage/api"
	"boskage/side"
	"reflect"
	"testing"
)

// x is f(q1.0, g(q0.1), a), where f, g and a are 2, 1 and 0.
func x() api.Out {
	return api.Out{Sym: 2, Kids: []api.Out{side.Call(1, 0), {Sym: 1, Kids: []api.Out{side.Call(0, 1)}}, {Sym: 0}}}
}

func TestNodes(t *testing.T) {
	want := []api.Out{x(), side.Call(1, 0), x().Kids[1], side.Call(0, 1), {Sym: 0}}
	for stop := range len(want) + 1 {
		var got []api.Out
		for node := range side.Nodes(x()) {
			if len(got) == stop {
				break
			}
			got = append(got, node)
		}
		if len(got) != stop || stop > 0 && !reflect.DeepEqual(got, want[:stop]) {
			t.Errorf("the first %d: %v", stop, got)
		}
	}
}

func TestCalls(t *testing.T) {
	want := []api.Out{{Call: true, State: 1, Kid: 0}, {Call: true, State: 0, Kid: 1}}
	for stop := 1; stop <= 3; stop++ {
		var got []api.Out
		for call := range side.Calls(x()) {
			got = append(got, call)
			if len(got) == stop {
				break
			}
		}
		if !reflect.DeepEqual(got, want[:min(stop, 2)]) {
			t.Errorf("the first %d: %v", stop, got)
		}
	}
}

// What is below a node is not looked at if nobody asks: here a list contains
// itself.
func TestNodesOfALoop(t *testing.T) {
	kids := make([]api.Out, 1)
	kids[0].Kids = kids
	number := 0
	for range side.Nodes(kids[0]) {
		number++
		if number == 1000 {
			break
		}
	}
	if number != 1000 {
		t.Errorf("%d nodes", number)
	}
}
