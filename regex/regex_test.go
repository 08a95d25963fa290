package regex_test

import (
	"boskage/api"
	"boskage/regex"
	"boskage/sample"
	"slices"
	"testing"
)

// P11.1
func TestValid(t *testing.T) {
	for n := range api.MaxTypes + 1 {
		for _, e := range sample.Expressions(min(n, 2), 4) {
			if !regex.Valid(n, e) {
				t.Errorf("%d letters: %s is valid", n, sample.ShowExpression(e))
			}
			for _, bad := range badNumbers {
				if regex.Valid(bad, e) {
					t.Errorf("%d letters: %s is not valid", bad, sample.ShowExpression(e))
				}
			}
		}
		for i, e := range sample.BadExpressions(n) {
			if regex.Valid(n, e) {
				t.Errorf("%d letters: bad expression %d is not valid", n, i)
			}
		}
		if n > 0 && !regex.Valid(n, sample.Letter(n-1)) {
			t.Errorf("%d letters: %d is a letter", n, n-1)
		}
	}
}

// P11.1: the limit of the number of nodes.
func TestValidNodes(t *testing.T) {
	a := sample.Letter(0)
	for nodes := range 60 {
		stars := a
		for range nodes - 1 {
			stars = sample.Op(api.Star, stars)
		}
		if got := regex.Valid(1, stars); got != (max(nodes, 1) <= api.MaxExpr) {
			t.Errorf("%d nodes, one below the other: %t", nodes, got)
		}
		both := repeat(a, nodes/2+1)
		if got := regex.Valid(1, both); got != (nodes/2*2+1 <= api.MaxExpr) {
			t.Errorf("%d letters, one after the other: %t", nodes/2+1, got)
		}
		right := a
		for range nodes / 2 {
			right = sample.Op(api.Either, sample.Op(api.Empty), right)
		}
		if got := regex.Valid(1, right); got != (nodes/2*2+1 <= api.MaxExpr) {
			t.Errorf("%d nodes to the right: %t", nodes/2*2+1, got)
		}
	}
}

// P11.1
func TestNullable(t *testing.T) {
	tests := []struct {
		text string
		want bool
	}{
		{"[]", false}, {"()", true}, {"a", false}, {"a*", true}, {"[]*", true}, {"()*", true},
		{"a b", false}, {"a* b", false}, {"a b*", false}, {"a* b*", true}, {"a* []", false}, {"() []", false}, {"[] ()", false},
		{"a | b", false}, {"a | b*", true}, {"a* | b", true}, {"[] | ()", true}, {"[] | []", false},
		{"(a b)*", true}, {"(a | ()) (b | ())", true}, {"(a | ()) b", false},
	}
	for _, test := range tests {
		if got, e := regex.Nullable(2, read(t, 2, test.text)); e != api.OK || got != test.want {
			t.Errorf("%s: %t, error %d", test.text, got, e)
		}
	}
	for _, e := range sample.Expressions(2, 5) {
		if got, err := regex.Nullable(2, e); err != api.OK || got != sample.Has(e, nil) {
			t.Errorf("%s: %t, error %d", sample.ShowExpression(e), got, err)
		}
	}
}

// P11.2
func TestHas(t *testing.T) {
	check := func(n int, e api.Expr, words [][]int) {
		t.Helper()
		for _, w := range words {
			if got, err := regex.Has(n, e, w); err != api.OK || got != sample.Has(e, w) {
				t.Errorf("%s, %v: %t, error %d", sample.ShowExpression(e), w, got, err)
			}
		}
	}
	for _, e := range sample.Expressions(2, 5) {
		check(2, e, sample.Words(2, 4))
	}
	for _, e := range random(3, 500, api.MaxExpr) {
		check(3, e, sample.Words(3, 5))
	}
	for _, e := range []api.Expr{sample.Op(api.Nothing), sample.Op(api.Empty), sample.Op(api.Star, sample.Op(api.Nothing))} {
		check(0, e, [][]int{nil, {}})
	}
}

// P11.2: words may have any length.
func TestHasLong(t *testing.T) {
	threes := read(t, 2, "(a a a)* b")
	for _, length := range []int{100, 999, 1000, 300000} {
		word := append(make([]int, length), 1)
		if got, e := regex.Has(2, threes, word); e != api.OK || got != (length%3 == 0) {
			t.Errorf("%d letters: %t, error %d", length, got, e)
		}
	}
	twenty := repeat(sample.Letter(11), 20)
	for length := range 24 {
		word := slices.Repeat([]int{11}, length)
		if got, e := regex.Has(12, twenty, word); e != api.OK || got != (length == 20) {
			t.Errorf("%d letters: %t, error %d", length, got, e)
		}
	}
}

// P11.2: ErrRange for what is not a letter.
func TestHasRange(t *testing.T) {
	for n := range api.MaxTypes + 1 {
		e := sample.Op(api.Empty)
		for _, word := range [][]int{{n}, {-1}, {1 << 40}, {-1 << 63}, {0, n}, {n, 0}, {0, 0, 0, 0, -1}} {
			if got, err := regex.Has(n, e, word); err != api.ErrRange || got {
				t.Errorf("%d letters, %v: %t, error %d", n, word, got, err)
			}
		}
	}
	word := append(make([]int, 300), 2)
	if got, err := regex.Has(2, sample.Op(api.Nothing), word); err != api.ErrRange || got {
		t.Errorf("after the word has failed: %t, error %d", got, err)
	}
}

// marked returns e with the numbers of its nodes with the Op Letter as letters,
// where next is the first number.
func marked(e api.Expr, next *int) api.Expr {
	if e.Op == api.Letter {
		*next++
		return sample.Letter(*next - 1)
	}
	m := sample.Op(e.Op)
	for _, arg := range e.Args {
		m.Args = append(m.Args, marked(arg, next))
	}
	return m
}

// plainPositions finds first, last and follow of e in all words of up to so
// many nodes.
func plainPositions(e api.Expr, most int) (first, last []int, follow [][2]int) {
	nodes := 0
	m := marked(e, &nodes)
	starts, ends, pairs := map[int]bool{}, map[int]bool{}, map[[2]int]bool{}
	for _, w := range language(nodes, m, most) {
		if len(w) > 0 {
			starts[w[0]], ends[w[len(w)-1]] = true, true
		}
		for i := range len(w) - 1 {
			pairs[[2]int{w[i], w[i+1]}] = true
		}
	}
	for x := range nodes {
		if starts[x] {
			first = append(first, x)
		}
		if ends[x] {
			last = append(last, x)
		}
		for y := range nodes {
			if pairs[[2]int{x, y}] {
				follow = append(follow, [2]int{x, y})
			}
		}
	}
	return first, last, follow
}

func checkPositions(t *testing.T, n int, e api.Expr, first, last []int, follow [][2]int) {
	t.Helper()
	gotFirst, gotLast, gotFollow, err := regex.Positions(n, e)
	if err != api.OK || !slices.Equal(gotFirst, first) || !slices.Equal(gotLast, last) || !slices.Equal(gotFollow, follow) {
		t.Errorf("%s: got %v, %v, %v, error %d, want %v, %v, %v", sample.ShowExpression(e), gotFirst, gotLast, gotFollow, err, first, last, follow)
	}
}

// P11.6
func TestPositions(t *testing.T) {
	tests := []struct {
		text        string
		first, last []int
		follow      [][2]int
	}{
		{"[]", nil, nil, nil},
		{"()", nil, nil, nil},
		{"b", []int{0}, []int{0}, nil},
		{"a a", []int{0}, []int{1}, [][2]int{{0, 1}}},
		{"a | a", []int{0, 1}, []int{0, 1}, nil},
		{"a*", []int{0}, []int{0}, [][2]int{{0, 0}}},
		{"a b* | ()", []int{0}, []int{0, 1}, [][2]int{{0, 1}, {1, 1}}},
		{"(a | b)* a", []int{0, 1, 2}, []int{2}, [][2]int{{0, 0}, {0, 1}, {0, 2}, {1, 0}, {1, 1}, {1, 2}}},
		{"(a b)*", []int{0}, []int{1}, [][2]int{{0, 1}, {1, 0}}},
		{"a* b* a*", []int{0, 1, 2}, []int{0, 1, 2}, [][2]int{{0, 0}, {0, 1}, {0, 2}, {1, 1}, {1, 2}, {2, 2}}},
		{"a [] | b", []int{1}, []int{1}, nil},
		{"[] a | b a", []int{1}, []int{2}, [][2]int{{1, 2}}},
		{"(a b []) | a", []int{2}, []int{2}, nil},
		{"a (b | a [])*", []int{0}, []int{0, 1}, [][2]int{{0, 1}, {1, 1}}},
		{"a (b a* [])", nil, nil, nil},
		{"(a [])* b ([] b)*", []int{1}, []int{1}, nil},
	}
	for _, test := range tests {
		checkPositions(t, 2, read(t, 2, test.text), test.first, test.last, test.follow)
	}
}

// P11.6: the definition, for all small expressions.
func TestPositionsOfSmallExpressions(t *testing.T) {
	for _, e := range sample.Expressions(1, 6) {
		first, last, follow := plainPositions(e, 6)
		checkPositions(t, 1, e, first, last, follow)
	}
	for _, e := range random(2, 400, 10) {
		if len(sample.Letters(e)) > 3 {
			continue
		}
		first, last, follow := plainPositions(e, 6)
		checkPositions(t, 2, e, first, last, follow)
	}
}

// pathWord reports whether a word is that of the letters of a path.
func pathWord(letters []int, first, last []int, follow [][2]int, w []int) bool {
	at := first
	for i, letter := range w {
		at = slices.DeleteFunc(slices.Clone(at), func(node int) bool { return letters[node] != letter })
		if i == len(w)-1 {
			break
		}
		var next []int
		for _, pair := range follow {
			if slices.Contains(at, pair[0]) {
				next = append(next, pair[1])
			}
		}
		at = next
	}
	return slices.ContainsFunc(at, func(node int) bool { return slices.Contains(last, node) })
}

// P11.10
func TestPositionsAccept(t *testing.T) {
	for _, e := range append(sample.Expressions(2, 4), random(2, 400, api.MaxExpr)...) {
		first, last, follow, err := regex.Positions(2, e)
		nullable, err2 := regex.Nullable(2, e)
		if err != api.OK || err2 != api.OK || !slices.IsSorted(first) || !slices.IsSorted(last) {
			t.Fatalf("%s: errors %d and %d", sample.ShowExpression(e), err, err2)
		}
		for _, w := range sample.Words(2, 5) {
			want, _ := regex.Has(2, e, w)
			if len(w) == 0 && nullable != want || len(w) > 0 && pathWord(sample.Letters(e), first, last, follow, w) != want {
				t.Errorf("%s: %v has no path, or has one", sample.ShowExpression(e), w)
			}
		}
	}
}

// P11.6: as many nodes as there can be.
func TestPositionsOfManyNodes(t *testing.T) {
	var all, pairs = []int{}, [][2]int{}
	for x := range 20 {
		all = append(all, x)
		for y := range 20 {
			pairs = append(pairs, [2]int{x, y})
		}
	}
	star := sample.Op(api.Star, sample.Chained(api.Either, sample.Letter(0), slices.Repeat([]api.Expr{sample.Letter(3)}, 19)...))
	checkPositions(t, 4, star, all, all, pairs)
}
