package path

import (
	"boskage/api"
	"boskage/scan"
	"strings"
)

// axes returns the names of the axes.
func axes() []string {
	return []string{Child: "child", Desc: "desc", Next: "next"}
}

// Print returns the printed form of p.
func Print(n int, names []string, p Path) (string, api.Errno) {
	if !Valid(n, p) {
		return "", api.ErrArg
	}
	if !scan.Names(names, n) {
		return "", api.ErrForm
	}
	var text strings.Builder
	write(&text, names, p)
	return text.String(), api.OK
}

// write appends the printed form of p to text.
func write(text *strings.Builder, names []string, p Path) {
	for i, s := range p.Steps {
		if i > 0 {
			text.WriteString("/")
		}
		text.WriteString(axes()[s.Axis])
		text.WriteString("::")
		if s.Label == anyLabel {
			text.WriteString("*")
		} else {
			text.WriteString(names[s.Label])
		}
		for _, t := range s.Tests {
			text.WriteString("[")
			if t.Not {
				text.WriteString("!")
			}
			write(text, names, t.Path)
			text.WriteString("]")
		}
	}
}

// Parse returns the path whose printed form is text.
func Parse(n int, names []string, text string) (p Path, e api.Errno) {
	if n < 1 || n > api.MaxLabels {
		return Path{}, api.ErrRange
	}
	if !scan.Names(names, n) {
		return Path{}, api.ErrForm
	}
	if len(text) > api.MaxText {
		return Path{}, api.ErrFull
	}
	defer func() {
		if r := recover(); r != nil {
			p, e = Path{}, scan.Cause(r)
		}
	}()
	p = read(newReader(text), names)
	if Length(p) > api.MaxSteps {
		panic(scan.Failure{Errno: api.ErrFull})
	}
	return p, api.OK
}

// newReader returns a reader of text. It panics if there is a blank: a reader
// would leave it out, but printed forms of paths have none.
func newReader(text string) *scan.Reader {
	if strings.Contains(text, " ") {
		panic(scan.Failure{Errno: api.ErrForm})
	}
	return scan.NewReader(text)
}

// read reads a path up to the end of the text. It panics if there is something
// else.
func read(r *scan.Reader, names []string) Path {
	p := readPath(r, names)
	r.Expect("")
	return p
}

// readPath reads a path. It panics if there is none.
func readPath(r *scan.Reader, names []string) Path {
	list := []Step{readStep(r, names)}
	for r.Peek() == "/" {
		r.Next()
		list = append(list, readStep(r, names))
	}
	return Path{Steps: list}
}

// readStep reads a step. It panics if there is none.
func readStep(r *scan.Reader, names []string) Step {
	s := Step{Axis: r.Pick(axes()), Label: anyLabel}
	r.Expect(":")
	r.Expect(":")
	if r.Peek() == "*" {
		r.Next()
	} else {
		s.Label = r.Pick(names)
	}
	for r.Peek() == "[" {
		s.Tests = append(s.Tests, readTest(r, names))
	}
	return s
}

// readTest reads a test. It panics if there is none.
func readTest(r *scan.Reader, names []string) Test {
	var t Test
	r.Expect("[")
	if r.Peek() == "!" {
		r.Next()
		t.Not = true
	}
	t.Path = readPath(r, names)
	r.Expect("]")
	return t
}
