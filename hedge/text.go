package hedge

import (
	"boskage/api"
	"boskage/scan"
	"strings"
)

// Print returns the printed form of h.
func Print(n int, names []string, h []api.Node) (string, api.Errno) {
	if !ValidHedge(n, h) {
		return "", api.ErrArg
	}
	if !scan.Names(names, n) {
		return "", api.ErrForm
	}
	var text strings.Builder
	write(&text, names, h)
	return text.String(), api.OK
}

// write appends the printed form of h to text.
func write(text *strings.Builder, names []string, h []api.Node) {
	for i, x := range h {
		if i > 0 {
			text.WriteString(" ")
		}
		text.WriteString(names[x.Label])
		if len(x.Kids) > 0 {
			text.WriteString("(")
			write(text, names, x.Kids)
			text.WriteString(")")
		}
	}
}

// Parse returns the hedge whose printed form is text, apart from blanks and
// from empty lists of children.
func Parse(n int, names []string, text string) (h []api.Node, e api.Errno) {
	if !validLabels(n) {
		return nil, api.ErrRange
	}
	if !scan.Names(names, n) {
		return nil, api.ErrForm
	}
	if len(text) > api.MaxText {
		return nil, api.ErrFull
	}
	defer func() {
		if r := recover(); r != nil {
			h, e = nil, scan.Cause(r)
		}
	}()
	r := scan.NewReader(text)
	h = read(r, names)
	r.Expect("")
	if Size(h) > api.MaxSize {
		panic(scan.Failure{Errno: api.ErrFull})
	}
	return h, api.OK
}

// read reads trees up to a closing parenthesis or the end of the text. It
// panics if something else follows.
func read(r *scan.Reader, names []string) []api.Node {
	var h []api.Node
	for r.Peek() != ")" && r.Peek() != "" {
		x := api.Node{Label: r.Pick(names)}
		if r.Peek() == "(" {
			r.Next()
			x.Kids = read(r, names)
			r.Expect(")")
		}
		h = append(h, x)
	}
	return h
}
