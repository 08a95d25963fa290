package sample

import (
	"boskage/api"
	"slices"
	"strconv"
)

// Schema makes a schema with the given numbers of labels and types, whose
// contents have at most so many nodes.
func Schema(s *Source, labels, types, nodes int) api.Schema {
	schema := api.Schema{Labels: labels}
	for number := range types {
		label := s.Below(labels)
		content := Op(api.Empty)
		if s.Below(4) > 0 {
			content = Expression(s, types, 1+s.Below(nodes))
		}
		schema.Types = append(schema.Types, api.Type{Label: label, Content: content})
		if number == 0 || s.Below(3) == 0 {
			schema.Start = append(schema.Start, number)
		}
	}
	return schema
}

// Schemas returns schemas over two labels of many kinds.
func Schemas() []api.Schema {
	list := []api.Schema{{Labels: 2}, Items(), AllDocuments(2), Alternating()}
	var s Source
	for types := 1; types <= 4; types++ {
		for nodes := 1; nodes <= 12; nodes++ {
			list = append(list, Schema(&s, 2, types, nodes), Schema(&s, 2, types, nodes))
		}
	}
	return list
}

// Items returns a schema for a node 0 with one child 1 or more.
func Items() api.Schema {
	items := Op(api.Concat, Letter(1), Op(api.Star, Letter(1)))
	return api.Schema{Labels: 2, Types: []api.Type{{Label: 0, Content: items}, {Label: 1, Content: Op(api.Empty)}}, Start: []int{0}}
}

// AllDocuments returns a schema with which all unranked trees are valid.
func AllDocuments(labels int) api.Schema {
	s := api.Schema{Labels: labels}
	content := Op(api.Nothing)
	for label := range labels {
		content = Op(api.Either, content, Letter(label))
	}
	for label := range labels {
		s.Types = append(s.Types, api.Type{Label: label, Content: Op(api.Star, CopyExpression(content))})
		s.Start = append(s.Start, label)
	}
	return s
}

// Alternating returns a schema with two types for the label 0, which take turns
// from level to level. The parent of a node says which one it has.
func Alternating() api.Schema {
	return api.Schema{Labels: 2, Types: []api.Type{
		{Label: 0, Content: Op(api.Star, Letter(1))},
		{Label: 0, Content: Op(api.Concat, Letter(0), Op(api.Either, Letter(2), Op(api.Empty)))},
		{Label: 1, Content: Op(api.Star, Op(api.Either, Letter(0), Letter(2)))},
	}, Start: []int{0, 2}}
}

// LargeSchema returns a schema with one document, which has the given number of
// nodes, such as 149, 150 or 300: a root, nodes with 20 leaves each, and leaves.
func LargeSchema(nodes int) api.Schema {
	leaves := slices.Repeat([]api.Expr{Letter(2)}, 19)
	twenty := Chained(api.Concat, Letter(2), leaves...)
	var rest []api.Expr
	for left := nodes - 22; left > 0; {
		if left >= 21 {
			rest = append(rest, Letter(1))
			left -= 21
		} else {
			rest = append(rest, Letter(2))
			left--
		}
	}
	return api.Schema{Labels: 3, Types: []api.Type{
		{Label: 0, Content: Chained(api.Concat, Letter(1), rest...)}, {Label: 1, Content: twenty}, {Label: 2, Content: Op(api.Empty)},
	}, Start: []int{0}}
}

// BadSchemas returns schemas that are not valid.
func BadSchemas() []api.Schema {
	leaf := api.Type{Content: Op(api.Empty)}
	two := []api.Type{leaf, leaf}
	bad := []api.Schema{
		{}, {Labels: -1}, {Labels: api.MaxLabels + 1}, {Labels: 1 << 40}, {Labels: -1 << 63}, {Types: two, Start: []int{0}},
		{Labels: 1, Types: slices.Repeat(two, 7)}, {Labels: 2, Types: slices.Repeat(two, 50000)},
		{Labels: 2, Types: []api.Type{leaf, {Label: 2, Content: leaf.Content}}}, {Labels: 2, Types: []api.Type{{Label: -1, Content: leaf.Content}}},
		{Labels: 2, Types: []api.Type{{Label: 1 << 40, Content: leaf.Content}}, Start: []int{0}},
		{Labels: 1, Start: []int{0}}, {Labels: 1, Start: []int{-1}}, {Labels: 1, Start: make([]int, 100000)},
	}
	for _, start := range [][]int{{-1}, {2}, {0, 0}, {1, 0}, {0, 1, 1}, {0, 1, 2}, {-1, 0}, {1 << 40}, {-1 << 63, 0}, {0, 1 << 62}} {
		bad = append(bad, api.Schema{Labels: 2, Types: two, Start: start})
	}
	for _, e := range BadExpressions(2) {
		bad = append(bad, api.Schema{Labels: 2, Types: []api.Type{leaf, {Label: 1, Content: e}}, Start: []int{0}})
	}
	return bad
}

// TypesOf returns the types that the root of x can have.
func TypesOf(s api.Schema, x api.Node) []int {
	var sets [][]int
	for _, kid := range x.Kids {
		sets = append(sets, TypesOf(s, kid))
	}
	var types []int
	for number, t := range s.Types {
		if t.Label == x.Label && Matches(t.Content, sets...) {
			types = append(types, number)
		}
	}
	return types
}

// IsDocument reports whether x is valid with respect to s.
func IsDocument(s api.Schema, x api.Node) bool {
	types := TypesOf(s, x)
	return slices.ContainsFunc(s.Start, func(start int) bool { return slices.Contains(types, start) })
}

// IsAssignment reports whether types are an assignment for x.
func IsAssignment(s api.Schema, x api.Node, types []int) bool {
	next := 0
	// visit takes the types of the nodes of x, and returns that of its root or
	// -1 if they are no assignment.
	var visit func(x api.Node) int
	visit = func(x api.Node) int {
		if next == len(types) {
			return -1
		}
		number := types[next]
		next++
		var word []int
		for _, kid := range x.Kids {
			word = append(word, visit(kid))
		}
		if number < 0 || number >= len(s.Types) || s.Types[number].Label != x.Label || slices.Contains(word, -1) || !Has(s.Types[number].Content, word) {
			return -1
		}
		return number
	}
	root := visit(x)
	return root >= 0 && next == len(types) && slices.Contains(s.Start, root)
}

// CopySchema copies a schema with all its memory.
func CopySchema(s api.Schema) api.Schema {
	s.Start, s.Types = slices.Clone(s.Start), slices.Clone(s.Types)
	for i, t := range s.Types {
		s.Types[i].Content = CopyExpression(t.Content)
	}
	return s
}

// EqualSchemas reports whether two schemas are the same, where an empty list
// equals nil.
func EqualSchemas(s, t api.Schema) bool {
	return s.Labels == t.Labels && slices.Equal(s.Start, t.Start) && slices.EqualFunc(s.Types, t.Types, func(x, y api.Type) bool {
		return x.Label == y.Label && EqualExpressions(x.Content, y.Content)
	})
}

// ShowSchema returns a schema as a text.
func ShowSchema(s api.Schema) string {
	text := strconv.Itoa(s.Labels) + " labels, start" + showNumbers(s.Start)
	for number, t := range s.Types {
		text += ", " + strconv.Itoa(number) + ": " + string(rune('a'+t.Label)) + " " + ShowExpression(t.Content)
	}
	return text
}
