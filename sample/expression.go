package sample

import (
	"boskage/api"
	"slices"
	"strconv"
)

// Op makes an expression with an operator.
func Op(op int, args ...api.Expr) api.Expr {
	return api.Expr{Op: op, Args: args}
}

// Letter makes an expression for a letter.
func Letter(letter int) api.Expr {
	return api.Expr{Op: api.Letter, Letter: letter}
}

// Chained makes an expression of several ones with Concat or Either, to the
// left.
func Chained(op int, first api.Expr, others ...api.Expr) api.Expr {
	for _, e := range others {
		first = Op(op, first, e)
	}
	return first
}

// Nodes returns the number of nodes of an expression.
func Nodes(e api.Expr) int {
	nodes := 1
	for _, arg := range e.Args {
		nodes += Nodes(arg)
	}
	return nodes
}

// Letters returns the letters of the nodes with the Op Letter, from left to
// right.
func Letters(e api.Expr) []int {
	if e.Op == api.Letter {
		return []int{e.Letter}
	}
	var letters []int
	for _, arg := range e.Args {
		letters = append(letters, Letters(arg)...)
	}
	return letters
}

// Expressions returns all expressions over n letters with at most so many
// nodes.
func Expressions(n, nodes int) []api.Expr {
	all := [][]api.Expr{{}}
	for size := 1; size <= nodes; size++ {
		var list []api.Expr
		if size == 1 {
			list = append(list, Op(api.Nothing), Op(api.Empty))
			for letter := range n {
				list = append(list, Letter(letter))
			}
		}
		for _, arg := range all[size-1] {
			list = append(list, Op(api.Star, arg))
		}
		for left := 1; left < size-1; left++ {
			for _, x := range all[left] {
				for _, y := range all[size-1-left] {
					list = append(list, Op(api.Concat, x, y), Op(api.Either, x, y))
				}
			}
		}
		all = append(all, list)
	}
	var list []api.Expr
	for _, e := range slices.Concat(all...) {
		list = append(list, CopyExpression(e))
	}
	return list
}

// Expression makes an expression over n letters with the given number of nodes.
func Expression(s *Source, n, nodes int) api.Expr {
	if nodes == 1 {
		return leafExpression(s, n)
	}
	if nodes == 2 || s.Below(4) == 0 {
		return Op(api.Star, Expression(s, n, nodes-1))
	}
	op := []int{api.Concat, api.Either}[s.Below(2)]
	left := 1 + s.Below(nodes-2)
	x := Expression(s, n, left)
	y := Expression(s, n, nodes-1-left)
	return Op(op, x, y)
}

// leafExpression makes an expression with one node, which is mostly a letter.
func leafExpression(s *Source, n int) api.Expr {
	switch kind := s.Below(12); {
	case kind == 0:
		return Op(api.Nothing)
	case kind == 1 || n == 0:
		return Op(api.Empty)
	}
	return Letter(s.Below(n))
}

// BadExpressions returns expressions that are not valid over n letters.
func BadExpressions(n int) []api.Expr {
	a, deep := Op(api.Empty), Op(api.Empty)
	for range api.MaxExpr {
		deep = Op(api.Star, deep)
	}
	far := deep
	for range 100000 {
		far = Op(api.Star, far)
	}
	bad := []api.Expr{
		Op(-1), Op(6), Op(6, a), Op(1 << 40), Op(-1 << 63),
		Op(api.Nothing, a), Op(api.Empty, a), {Op: api.Letter, Args: []api.Expr{a}}, {Op: api.Letter, Letter: n - 1, Args: []api.Expr{a}},
		Op(api.Concat), Op(api.Concat, a), Op(api.Concat, a, a, a), Op(api.Either), Op(api.Either, a), Op(api.Either, a, a, a),
		Op(api.Star), Op(api.Star, a, a), Op(api.Star, make([]api.Expr, 1000)...),
		Letter(-1), Letter(n), Letter(1 << 40), Letter(-1 << 63),
		{Op: api.Nothing, Letter: 1}, {Op: api.Empty, Letter: -1}, {Op: api.Star, Letter: 1, Args: []api.Expr{a}}, {Op: api.Either, Letter: 1, Args: []api.Expr{a, a}},
		{Op: api.Concat, Letter: 1 << 40, Args: []api.Expr{a, a}},
		deep, far, Chained(api.Concat, a, slices.Repeat([]api.Expr{a}, api.MaxExpr/2)...), Chained(api.Either, a, slices.Repeat([]api.Expr{a}, 50000)...),
	}
	for _, e := range slices.Clone(bad[:27]) {
		bad = append(bad, Op(api.Star, e), Op(api.Concat, a, e), Op(api.Either, e, a), Op(api.Either, a, Op(api.Star, Op(api.Concat, a, e))))
	}
	return bad
}

// Matches reports whether some word of the language of e has letters from the
// given sets: its first letter from the first one, and so on.
func Matches(e api.Expr, sets ...[]int) bool {
	from := make([]bool, len(sets)+1)
	from[0] = true
	return ends(e, sets, from)[len(sets)]
}

// ends returns for each number of sets whether they can be those of a beginning
// followed by a word of the language of e, where from says so of the beginnings.
func ends(e api.Expr, sets [][]int, from []bool) []bool {
	to := make([]bool, len(from))
	switch e.Op {
	case api.Empty:
		copy(to, from)
	case api.Letter:
		for i, set := range sets {
			to[i+1] = from[i] && slices.Contains(set, e.Letter)
		}
	case api.Concat:
		return ends(e.Args[1], sets, ends(e.Args[0], sets, from))
	case api.Either:
		x, y := ends(e.Args[0], sets, from), ends(e.Args[1], sets, from)
		for i := range to {
			to[i] = x[i] || y[i]
		}
	case api.Star:
		copy(to, from)
		for changed := true; changed; {
			changed = false
			for i, is := range ends(e.Args[0], sets, to) {
				changed = changed || is && !to[i]
				to[i] = to[i] || is
			}
		}
	}
	return to
}

// Has reports whether a word is in the language of e.
func Has(e api.Expr, word []int) bool {
	var sets [][]int
	for _, letter := range word {
		sets = append(sets, []int{letter})
	}
	return Matches(e, sets...)
}

// Words returns all words over n letters with at most so many letters, by
// length and then lexicographically.
func Words(n, most int) [][]int {
	var words [][]int
	for length := range most + 1 {
		words = append(words, Lists(length, n)...)
	}
	return words
}

// EqualExpressions reports whether two expressions are the same, where an empty
// list equals nil.
func EqualExpressions(e, f api.Expr) bool {
	return e.Op == f.Op && e.Letter == f.Letter && slices.EqualFunc(e.Args, f.Args, EqualExpressions)
}

// CopyExpression copies an expression with all its memory.
func CopyExpression(e api.Expr) api.Expr {
	e.Args = slices.Clone(e.Args)
	for i, arg := range e.Args {
		e.Args[i] = CopyExpression(arg)
	}
	return e
}

// ShareExpressions reports whether two lists of arguments in the expressions
// share memory, up to their capacities.
func ShareExpressions(expressions ...api.Expr) bool {
	return share(expressions, func(e api.Expr) []api.Expr { return e.Args })
}

// ShowExpression returns e as a text, in which each operator has parentheses.
func ShowExpression(e api.Expr) string {
	switch e.Op {
	case api.Nothing:
		return "[]"
	case api.Empty:
		return "()"
	case api.Letter:
		return strconv.Itoa(e.Letter)
	case api.Concat:
		return "(" + ShowExpression(e.Args[0]) + " " + ShowExpression(e.Args[1]) + ")"
	case api.Either:
		return "(" + ShowExpression(e.Args[0]) + "|" + ShowExpression(e.Args[1]) + ")"
	case api.Star:
		return ShowExpression(e.Args[0]) + "*"
	}
	return "?"
}
