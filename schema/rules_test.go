package schema_test

import (
	"boskage/api"
	"boskage/auto"
	"boskage/hedge"
	"boskage/sample"
	"boskage/schema"
	"reflect"
	"slices"
	"testing"
)

// outcome is what a call of each function returns.
type outcome struct {
	valid, accepts, check, single, local, included bool
	types                                          []int
	automaton                                      api.Automaton
	example, smallest                              api.Node
	useful                                         []bool
	errors                                         [9]api.Errno
}

// callAll calls all functions.
func callAll(s, u api.Schema, x api.Node, types []int) outcome {
	var o outcome
	o.valid = schema.Valid(s)
	o.accepts, o.errors[0] = schema.Accepts(s, x)
	o.types, o.errors[1] = schema.Types(s, x)
	o.check, o.errors[2] = schema.Check(s, x, types)
	o.automaton, o.errors[3] = schema.Automaton(s)
	o.single, o.errors[4] = schema.Single(s)
	o.local, o.errors[5] = schema.Local(s)
	o.included, o.example, o.errors[6] = schema.Included(s, u)
	o.smallest, o.errors[7] = schema.Smallest(s)
	o.useful, o.errors[8] = schema.Useful(s)
	return o
}

// checkZero checks that what is returned with an error is zero.
func (o outcome) checkZero(t *testing.T, what string) {
	t.Helper()
	zero := [9]bool{
		!o.accepts, len(o.types) == 0, !o.check, sample.Equal(o.automaton, api.Automaton{}), !o.single, !o.local,
		!o.included && isZero(o.example), isZero(o.smallest), len(o.useful) == 0,
	}
	for i, e := range o.errors {
		if e < api.OK || e > api.ErrState || e != api.OK && !zero[i] {
			t.Errorf("%s: error %d of call %d, with a result", what, e, i)
		}
	}
	if o.included && !isZero(o.example) {
		t.Errorf("%s: included, and an example", what)
	}
}

// P12.1 to P12.8: schemas that are not valid are refused before all else.
func TestBadSchemas(t *testing.T) {
	for i, s := range sample.BadSchemas() {
		for _, x := range []api.Node{sample.Node(0), sample.Node(-1)} {
			o := callAll(s, sample.Items(), x, nil)
			o.checkZero(t, "a bad schema")
			for call, e := range o.errors {
				if e != api.ErrArg || o.valid {
					t.Errorf("bad schema %d: error %d of call %d", i, e, call)
				}
			}
		}
	}
}

// P12.2, P12.3: trees that are not valid.
func TestBadTrees(t *testing.T) {
	for _, s := range append(sample.Schemas(), sample.AllDocuments(1), sample.AllDocuments(api.MaxLabels)) {
		for i, x := range sample.BadNodes(s.Labels) {
			o := callAll(s, s, x, []int{0})
			o.checkZero(t, "a bad tree")
			for call, e := range o.errors[:3] {
				if e != api.ErrArg {
					t.Errorf("%s, tree %d: error %d of call %d", sample.ShowSchema(s), i, e, call)
				}
			}
		}
	}
}

// P1, P2: all arguments are accepted, equal calls have equal results, and with
// an error they are zero.
func TestAnyArguments(t *testing.T) {
	list := slices.Concat(sample.BadSchemas(), sample.Schemas(), []api.Schema{full(), sample.LargeSchema(300), sample.AllDocuments(api.MaxLabels), {Labels: 8}})
	var source sample.Source
	for range 40 {
		list = append(list, sample.Schema(&source, 1+source.Below(3), api.MaxTypes, api.MaxExpr))
	}
	trees := append(sample.BadNodes(2), sample.Documents(3, 3)...)
	for i, s := range list {
		u, x := list[(i*7+3)%len(list)], trees[i%len(trees)]
		types := [][]int{nil, {0}, {0, 1}, {-1}, {1 << 40, 0, 1}, make([]int, 1000)}[i%6]
		o := callAll(s, u, x, types)
		o.checkZero(t, "any arguments")
		if !reflect.DeepEqual(o, callAll(s, u, x, types)) {
			t.Errorf("schema %d: equal calls have different results", i)
		}
	}
}

// P2: arguments are not changed, and results share no memory with them or with
// each other.
func TestNoSharing(t *testing.T) {
	for _, s := range append(sample.Schemas(), full()) {
		x, types := sample.Node(0, sample.Node(1), sample.Node(0)), []int{0, 1, 1}
		beforeS, beforeX := sample.CopySchema(s), sample.CopyNode(x)
		first, second := callAll(s, api.Schema{Labels: s.Labels}, x, types), callAll(s, api.Schema{Labels: s.Labels}, x, types)
		if sample.Share(first.automaton, second.automaton) || sample.ShareNodes(first.smallest, first.example, second.smallest, second.example) {
			t.Errorf("%s: memory is shared", sample.ShowSchema(s))
		}
		for i := range first.types {
			first.types[i] = -1
		}
		for i := range first.useful {
			first.useful[i] = !first.useful[i]
		}
		if third := callAll(s, api.Schema{Labels: s.Labels}, x, types); !reflect.DeepEqual(second, third) {
			t.Errorf("%s: results share memory", sample.ShowSchema(s))
		}
		if !sample.EqualSchemas(s, beforeS) || !sample.EqualNodes(x, beforeX) || !slices.Equal(types, []int{0, 1, 1}) {
			t.Errorf("%s: an argument was changed", sample.ShowSchema(s))
		}
	}
}

// P10: automata and trees are printed and parsed back.
func TestRoundTrip(t *testing.T) {
	names := []string{"a", "b"}
	al, _ := hedge.Binary(2)
	for _, s := range sample.Schemas() {
		a, _ := schema.Automaton(s)
		text, e1 := auto.Print(al, a)
		back, e2 := auto.Parse(al, text)
		if e1 != api.OK || e2 != api.OK || !sample.Equal(a, back) {
			t.Errorf("%s: errors %d and %d", sample.ShowSchema(s), e1, e2)
		}
		x, e := schema.Smallest(s)
		if e != api.OK {
			continue
		}
		line, e1 := hedge.Print(2, names, []api.Node{x})
		h, e2 := hedge.Parse(2, names, line)
		if e1 != api.OK || e2 != api.OK || len(h) != 1 || !sample.EqualNodes(h[0], x) {
			t.Errorf("%s: errors %d and %d", line, e1, e2)
		}
	}
}
