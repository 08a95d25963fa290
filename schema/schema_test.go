package schema_test

import (
	"boskage/api"
	"boskage/sample"
	"boskage/schema"
	"slices"
	"testing"
)

// P12.1
func TestValid(t *testing.T) {
	leaf := api.Type{Content: sample.Op(api.Empty)}
	good := append(sample.Schemas(), sample.LargeSchema(149), api.Schema{Labels: 1}, api.Schema{Labels: api.MaxLabels, Start: []int{}})
	for number := range api.MaxTypes {
		types := slices.Repeat([]api.Type{leaf}, number+1)
		types[0].Content = sample.Letter(number)
		types[number].Label = api.MaxLabels - 1
		good = append(good, api.Schema{Labels: api.MaxLabels, Types: types, Start: []int{number}})
		for start := range number {
			good = append(good, api.Schema{Labels: api.MaxLabels, Types: types, Start: []int{start, number}})
		}
		bad := api.Schema{Labels: api.MaxLabels, Types: slices.Clone(types)}
		bad.Types[number/2].Content = sample.Letter(number + 1)
		if schema.Valid(bad) {
			t.Errorf("%s is not valid", sample.ShowSchema(bad))
		}
	}
	for _, s := range good {
		if !schema.Valid(s) {
			t.Errorf("%s is valid", sample.ShowSchema(s))
		}
	}
	for i, s := range sample.BadSchemas() {
		if schema.Valid(s) {
			t.Errorf("bad schema %d is not valid", i)
		}
	}
}

// P12.2, P12.3, P12.9
func TestAccepts(t *testing.T) {
	for _, s := range sample.Schemas() {
		for _, x := range documents {
			checkAccepts(t, s, x)
		}
	}
	var source sample.Source
	for _, x := range sample.Documents(3, 4) {
		for range 3 {
			checkAccepts(t, sample.Schema(&source, 3, 1+source.Below(6), 20), x)
		}
	}
}

// P12.2
func TestAcceptsExamples(t *testing.T) {
	tests := []struct {
		s    api.Schema
		text string
		want bool
	}{
		{sample.Items(), "a(b b)", true},
		{sample.Items(), "a(b)", true},
		{sample.Items(), "a", false},
		{sample.Items(), "b", false},
		{sample.Items(), "a(b a)", false},
		{sample.Items(), "a(b(b) b)", false},
		{sample.AllDocuments(2), "b(a b(a a(b)))", true},
		{sample.Alternating(), "b(b a b)", true},
		{sample.Alternating(), "a(a(a))", true},
		{sample.Alternating(), "a(a)", false},
		{sample.Alternating(), "a(a(a(a(a(a b) b)) b))", false},
		{sample.Alternating(), "a(a(a b(a)) a(a))", true},
		{api.Schema{Labels: 2}, "a", false},
		{single(choice(sample.Letter(0))), "a(a(a(a)))", true},
		{single(choice(sample.Letter(0))), "a(a a)", false},
		{single(sample.Letter(0)), "a(a(a(a)))", false},
		{single(sample.Op(api.Nothing)), "a", false},
	}
	for _, test := range tests {
		if got, e := schema.Accepts(test.s, read(t, test.text)); e != api.OK || got != test.want {
			t.Errorf("%s, %s: %t, error %d", sample.ShowSchema(test.s), test.text, got, e)
		}
	}
}

// P12.2, P12.3: as many nodes and types as there can be.
func TestAcceptsLarge(t *testing.T) {
	all := sample.AllDocuments(api.MaxLabels)
	for _, x := range []api.Node{
		sample.ChainNode(api.MaxSize, 7), sample.Node(3, sample.Row(api.MaxSize-1, 2)...), sample.RandomNode(&sample.Source{}, api.MaxLabels, api.MaxSize),
	} {
		checkAccepts(t, all, x)
	}
	checkAccepts(t, single(choice(sample.Letter(0))), sample.ChainNode(api.MaxSize, 0))
	checkAccepts(t, sample.Items(), sample.Node(0, sample.Row(api.MaxSize-1, 1)...))
	checkAccepts(t, sample.Items(), sample.Node(0, append(sample.Row(api.MaxSize-2, 1), sample.Node(0))...))
	var source sample.Source
	for range 60 {
		s := sample.Schema(&source, 2, api.MaxTypes, api.MaxExpr)
		for range 20 {
			checkAccepts(t, s, sample.RandomNode(&source, 2, 1+source.Below(12)))
		}
	}
	checkAccepts(t, full(), sample.Node(0, sample.Row(20, 0)...))
	checkAccepts(t, full(), sample.Node(0, sample.Row(19, 0)...))
}

// full returns a schema with as many places in contents as there can be: the
// children of a node are 20 leaves or none.
func full() api.Schema {
	s := api.Schema{Labels: 1}
	for number := range api.MaxTypes {
		var letters []api.Expr
		for i := range 19 {
			letters = append(letters, sample.Letter((number*i+1)%api.MaxTypes))
		}
		content := sample.Op(api.Star, sample.Chained(api.Concat, sample.Letter(number), letters...))
		s.Types = append(s.Types, api.Type{Content: content})
		s.Start = append(s.Start, number)
	}
	return s
}

// P12.3: Check for all lists of types.
func TestCheck(t *testing.T) {
	list := sample.Schemas()
	for i := 0; i < len(list); i += 3 {
		s := list[i]
		for _, x := range sample.Documents(2, 3) {
			for length := range 5 {
				for _, types := range sample.Lists(length, len(s.Types)+1) {
					want := sample.IsAssignment(s, x, types)
					if got, e := schema.Check(s, x, types); e != api.OK || got != want {
						t.Errorf("%s, %s, %v: %t, error %d", sample.ShowSchema(s), sample.ShowNode(x), types, got, e)
					}
				}
			}
		}
	}
}

// P12.3
func TestCheckExamples(t *testing.T) {
	two := read(t, "a(b b)")
	tests := []struct {
		x     api.Node
		types []int
		want  bool
	}{
		{two, []int{0, 1, 1}, true},
		{two, []int{0, 1}, false},
		{two, []int{0, 1, 1, 1}, false},
		{two, []int{0, 1, 0}, false},
		{two, []int{1, 1, 1}, false},
		{two, []int{0, 1, 2}, false},
		{two, []int{0, 1, -1}, false},
		{two, []int{0, 1 << 40, 1}, false},
		{two, nil, false},
		{two, make([]int, 100000), false},
		{read(t, "b"), []int{1}, false},
		{read(t, "a"), []int{0}, false},
		{read(t, "a(b(b))"), []int{0, 1, 1}, false},
	}
	for _, test := range tests {
		if got, e := schema.Check(sample.Items(), test.x, test.types); e != api.OK || got != test.want {
			t.Errorf("%s, %v: %t, error %d", sample.ShowNode(test.x), test.types, got, e)
		}
	}
}

// P12.5
func TestSingle(t *testing.T) {
	types := func(start []int, contents ...api.Expr) api.Schema {
		schema := api.Schema{Labels: 2, Start: start}
		for i, content := range contents {
			schema.Types = append(schema.Types, api.Type{Label: []int{0, 0, 1}[i], Content: content})
		}
		return schema
	}
	none, one, two, other := sample.Op(api.Empty), sample.Letter(0), sample.Letter(1), sample.Letter(2)
	both := func(x, y api.Expr) api.Expr { return sample.Op(api.Concat, x, y) }
	tests := []struct {
		s             api.Schema
		single, local bool
	}{
		{api.Schema{Labels: 1}, true, true},
		{sample.Items(), true, true},
		{sample.AllDocuments(8), true, true},
		{sample.Alternating(), true, false},
		{types([]int{0}, none, none, none), true, false},
		{types([]int{0, 1}, none, none, none), false, false},
		{types([]int{0, 2}, none, none, none), true, false},
		{types([]int{1, 2}, one, two, other), true, false},
		{types([]int{0}, both(one, one), none, none), true, false},
		{types([]int{0}, both(one, two), none, none), false, false},
		{types([]int{0}, none, none, both(both(two, other), one)), false, false},
		{types([]int{0}, both(one, other), both(other, two), sample.Op(api.Star, one)), true, false},
		{types([]int{0}, none, both(sample.Op(api.Nothing), both(one, two)), none), false, false},
		{types([]int{0}, none), true, true},
		{types([]int{}, none, sample.Op(api.Star, sample.Op(api.Either, one, two))), false, false},
	}
	for _, test := range tests {
		if got, e := schema.Single(test.s); e != api.OK || got != test.single {
			t.Errorf("%s: Single returns %t, error %d", sample.ShowSchema(test.s), got, e)
		}
		if got, e := schema.Local(test.s); e != api.OK || got != test.local {
			t.Errorf("%s: Local returns %t, error %d", sample.ShowSchema(test.s), got, e)
		}
	}
}

// P12.5: the definitions.
func TestSingleDefinition(t *testing.T) {
	clash := func(s api.Schema, list []int) bool {
		for _, x := range list {
			for _, y := range list {
				if x != y && s.Types[x].Label == s.Types[y].Label {
					return true
				}
			}
		}
		return false
	}
	for _, s := range sample.Schemas() {
		single, all := !clash(s, s.Start), []int{}
		for number, x := range s.Types {
			single = single && !clash(s, sample.Letters(x.Content))
			all = append(all, number)
		}
		if got, e := schema.Single(s); e != api.OK || got != single {
			t.Errorf("%s: Single returns %t, error %d", sample.ShowSchema(s), got, e)
		}
		if got, e := schema.Local(s); e != api.OK || got != !clash(s, all) {
			t.Errorf("%s: Local returns %t, error %d", sample.ShowSchema(s), got, e)
		}
	}
}

// P12.11
func TestOneAssignment(t *testing.T) {
	found := 0
	for _, s := range sample.Schemas() {
		if single, _ := schema.Single(s); !single {
			continue
		}
		for _, x := range sample.Documents(2, 4) {
			assignments := 0
			for _, types := range sample.Lists(sample.NodeSize(x), len(s.Types)) {
				if is, _ := schema.Check(s, x, types); is {
					assignments++
				}
			}
			if assignments > 1 {
				t.Errorf("%s, %s: %d assignments", sample.ShowSchema(s), sample.ShowNode(x), assignments)
			}
			found += assignments
		}
	}
	if found == 0 {
		t.Error("there are no documents")
	}
}
