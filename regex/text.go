package regex

import (
	"boskage/api"
	"boskage/scan"
	"strings"
)

// The precedences of operators, from the lowest one.
const (
	none = iota // no operator
	either
	concat
	star
	atom // what stands without an operator
)

// Print returns the printed form of e.
func Print(n int, names []string, e api.Expr) (string, api.Errno) {
	if !Valid(n, e) {
		return "", api.ErrArg
	}
	if !scan.Names(names, n) {
		return "", api.ErrForm
	}
	var text strings.Builder
	write(&text, names, e, none)
	return text.String(), api.OK
}

// precedence returns the precedence of the operator of e.
func precedence(e api.Expr) int {
	switch e.Op {
	case api.Either:
		return either
	case api.Concat:
		return concat
	case api.Star:
		return star
	}
	return atom
}

// write appends the printed form of e to text, in parentheses if its operator
// has a lower precedence than least.
func write(text *strings.Builder, names []string, e api.Expr, least int) {
	if precedence(e) < least {
		text.WriteString("(")
		write(text, names, e, none)
		text.WriteString(")")
		return
	}
	switch e.Op {
	case api.Nothing:
		text.WriteString("[]")
	case api.Empty:
		text.WriteString("()")
	case api.Letter:
		text.WriteString(names[e.Letter])
	case api.Concat:
		write(text, names, e.Args[0], concat)
		text.WriteString(" ")
		write(text, names, e.Args[1], concat+1)
	case api.Either:
		write(text, names, e.Args[0], either)
		text.WriteString(" | ")
		write(text, names, e.Args[1], either+1)
	case api.Star:
		write(text, names, e.Args[0], star)
		text.WriteString("*")
	}
}

// Parse returns the expression that text is according to the syntax.
func Parse(n int, names []string, text string) (e api.Expr, e2 api.Errno) {
	if !validLetters(n) {
		return api.Expr{}, api.ErrArg
	}
	if !scan.Names(names, n) {
		return api.Expr{}, api.ErrForm
	}
	if len(text) > api.MaxText {
		return api.Expr{}, api.ErrFull
	}
	defer func() {
		if r := recover(); r != nil {
			e, e2 = api.Expr{}, scan.Cause(r)
		}
	}()
	r := scan.NewReader(text)
	e = read(r, names, either)
	r.Expect("")
	if !Valid(n, e) {
		panic(scan.Failure{Errno: api.ErrFull})
	}
	return e, api.OK
}

// read reads an expression as far as its operators have at least the given
// precedence. It panics if there is none.
func read(r *scan.Reader, names []string, least int) api.Expr {
	e := readAtom(r, names)
	for {
		operator := following(r)
		if operator < least {
			return e
		}
		switch operator {
		case either:
			r.Next()
			e = api.Expr{Op: api.Either, Args: []api.Expr{e, read(r, names, either+1)}}
		case concat:
			e = api.Expr{Op: api.Concat, Args: []api.Expr{e, read(r, names, concat+1)}}
		case star:
			r.Next()
			e = api.Expr{Op: api.Star, Args: []api.Expr{e}}
		}
	}
}

// following returns the precedence of the operator that follows an expression.
// Concat has no token: it is there where another expression begins.
func following(r *scan.Reader) int {
	switch r.Peek() {
	case "", ")":
		return none
	case "|":
		return either
	case "*":
		return star
	}
	return concat
}

// readAtom reads an expression without an operator, or one in parentheses. It
// panics if there is none.
func readAtom(r *scan.Reader, names []string) api.Expr {
	switch r.Peek() {
	case "[":
		r.Next()
		r.Expect("]")
		return api.Expr{Op: api.Nothing}
	case "(":
		r.Next()
		if r.Peek() == ")" {
			r.Next()
			return api.Expr{Op: api.Empty}
		}
		e := read(r, names, either)
		r.Expect(")")
		return e
	}
	return api.Expr{Op: api.Letter, Letter: r.Pick(names)}
}
