package trans

import (
	"boskage/api"
	"boskage/scan"
	"boskage/side"
	"boskage/tree"
	"strconv"
	"strings"
)

// Print returns the printed form of tr.
func Print(tr api.Transducer) (string, api.Errno) {
	if !Valid(tr) {
		return "", api.ErrArg
	}
	lines := []string{
		scan.Join("in", tr.In.Ranks...),
		scan.Join("out", tr.Out.Ranks...),
		scan.Join("states", tr.States),
		scan.Join("domain", tr.Domain.States, tr.Domain.Start),
	}
	for state, row := range tr.Domain.Next {
		for sym, kids := range row {
			if kids != nil {
				lines = append(lines, scan.Join(scan.Join("d", state, sym), kids...))
			}
		}
	}
	lines = append(lines, "axiom "+printOut(tr.Axiom))
	for state, row := range tr.Rules {
		for sym, sides := range row {
			for _, x := range sides {
				lines = append(lines, scan.Join("r", state, sym)+" "+printOut(x))
			}
		}
	}
	text := strings.Join(lines, "\n") + "\n"
	if len(text) > api.MaxText {
		return "", api.ErrFull
	}
	return text, api.OK
}

// printOut returns the printed form of a right-hand side.
func printOut(x api.Out) string {
	if x.Call {
		return "q" + strconv.Itoa(x.State) + "." + strconv.Itoa(x.Kid)
	}
	text := strconv.Itoa(x.Sym)
	if len(x.Kids) == 0 {
		return text
	}
	var kids []string
	for _, kid := range x.Kids {
		kids = append(kids, printOut(kid))
	}
	return text + "(" + strings.Join(kids, ",") + ")"
}

// Parse returns the transducer whose printed form is text.
//
// Reading permits more blanks, lines in another order and transducers that are not
// valid, but printing the result again tells whether text is its printed form.
func Parse(text string) (tr api.Transducer, e api.Errno) {
	if len(text) > api.MaxText {
		return api.Transducer{}, api.ErrFull
	}
	defer func() {
		if r := recover(); r != nil {
			tr, e = api.Transducer{}, scan.Cause(r)
		}
	}()
	tr = read(scan.NewReader(text))
	if printed, e := Print(tr); e != api.OK || printed != text {
		return api.Transducer{}, api.ErrForm
	}
	return tr, api.OK
}

// read reads a transducer up to the end of the text. It panics if there is none,
// or if it has numbers for which there would be no place.
func read(r *scan.Reader) api.Transducer {
	var tr api.Transducer
	tr.In = readAlphabet(r, "in")
	tr.Out = readAlphabet(r, "out")
	r.Expect("states")
	tr.States = r.Number(api.MaxStates + 1)
	r.Expect("\n")
	tr.Domain = readDomain(r, tr.In)
	r.Expect("axiom")
	tr.Axiom = readOut(r)
	r.Expect("\n")
	tr.Rules = table[[]api.Out](tr.States, tr.In)
	for r.Peek() == "r" {
		r.Next()
		state := r.Number(tr.States)
		sym := r.Number(len(tr.In.Ranks))
		tr.Rules[state][sym] = []api.Out{readOut(r)}
		r.Expect("\n")
	}
	r.Expect("")
	return tr
}

// readAlphabet reads the line that begins with a word and contains ranks.
func readAlphabet(r *scan.Reader, word string) api.Alphabet {
	r.Expect(word)
	al := api.Alphabet{Ranks: readNumbers(r, api.MaxRank+1)}
	if !tree.ValidAlphabet(al) {
		panic(scan.Failure{Errno: api.ErrForm})
	}
	return al
}

// readDomain reads the lines of the domain.
func readDomain(r *scan.Reader, al api.Alphabet) api.Topdown {
	r.Expect("domain")
	d := api.Topdown{States: r.Number(api.MaxStates + 1), Start: -1}
	if r.Peek() == "-" {
		r.Next()
		r.Expect("1")
	} else {
		d.Start = r.Number(d.States)
	}
	r.Expect("\n")
	d.Next = table[[]int](d.States, al)
	for r.Peek() == "d" {
		r.Next()
		state := r.Number(d.States)
		sym := r.Number(len(al.Ranks))
		d.Next[state][sym] = readNumbers(r, d.States)
	}
	return d
}

// readNumbers reads numbers that are less than limit, up to the end of the line.
// The list is not nil if it is empty.
func readNumbers(r *scan.Reader, limit int) []int {
	list := []int{}
	for r.Peek() != "\n" {
		list = append(list, r.Number(limit))
	}
	r.Next()
	return list
}

// table returns an empty element for each of the states and each symbol.
func table[T any](states int, al api.Alphabet) [][]T {
	rows := make([][]T, states)
	for state := range rows {
		rows[state] = make([]T, len(al.Ranks))
	}
	return rows
}

// readOut reads a right-hand side.
func readOut(r *scan.Reader) api.Out {
	token := r.Next()
	if state, isCall := strings.CutPrefix(token, "q"); isCall {
		x := side.Call(scan.Number(state, api.MaxStates), 0)
		r.Expect(".")
		x.Kid = r.Number(api.MaxRank)
		return x
	}
	x := api.Out{Sym: scan.Number(token, api.MaxSymbols)}
	mark := "("
	for r.Peek() == mark {
		r.Next()
		x.Kids = append(x.Kids, readOut(r))
		mark = ","
	}
	if len(x.Kids) > 0 {
		r.Expect(")")
	}
	return x
}
