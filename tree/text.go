package tree

import (
	"boskage/api"
	"boskage/scan"
	"strings"
)

// Name reports whether s is a name: a letter followed by letters and digits,
// with at most MaxName bytes.
func Name(s string) bool {
	return scan.Name(s)
}

// Print returns the printed form of t.
func Print(a api.Alphabet, names []string, t api.Tree) (string, api.Errno) {
	if !Valid(a, t) {
		return "", api.ErrArg
	}
	if !scan.Names(names, len(a.Ranks)) {
		return "", api.ErrForm
	}
	var text strings.Builder
	write(&text, names, t)
	return text.String(), api.OK
}

// write appends the printed form of t to text.
func write(text *strings.Builder, names []string, t api.Tree) {
	text.WriteString(names[t.Sym])
	if len(t.Kids) == 0 {
		return
	}
	mark := "("
	for _, kid := range t.Kids {
		text.WriteString(mark)
		write(text, names, kid)
		mark = ", "
	}
	text.WriteString(")")
}

// Parse returns the tree whose printed form is text, apart from blanks.
func Parse(a api.Alphabet, names []string, text string) (t api.Tree, e api.Errno) {
	if !ValidAlphabet(a) {
		return api.Tree{}, api.ErrArg
	}
	if !scan.Names(names, len(a.Ranks)) {
		return api.Tree{}, api.ErrForm
	}
	if len(text) > api.MaxText {
		return api.Tree{}, api.ErrFull
	}
	defer func() {
		if r := recover(); r != nil {
			t, e = api.Tree{}, scan.Cause(r)
		}
	}()
	r := scan.NewReader(text)
	t = read(r, a, names)
	r.Expect("")
	if Size(t) > api.MaxSize {
		panic(scan.Failure{Errno: api.ErrFull})
	}
	return t, api.OK
}

// read reads the printed form of a tree. It panics if there is none.
func read(r *scan.Reader, a api.Alphabet, names []string) api.Tree {
	sym := r.Pick(names)
	rank := a.Ranks[sym]
	if rank == 0 {
		return api.Tree{Sym: sym}
	}
	kids := make([]api.Tree, rank)
	mark := "("
	for i := range kids {
		r.Expect(mark)
		kids[i] = read(r, a, names)
		mark = ","
	}
	r.Expect(")")
	return api.Tree{Sym: sym, Kids: kids}
}
