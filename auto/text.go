package auto

import (
	"boskage/api"
	"boskage/scan"
	"boskage/tree"
	"slices"
	"strconv"
	"strings"
)

// maxNumber bounds the numbers of a text.
const maxNumber = 1 << 60

// Print returns the printed form of a.
func Print(al api.Alphabet, a api.Automaton) (string, api.Errno) {
	if !Valid(al, a) {
		return "", api.ErrArg
	}
	var text strings.Builder
	writeLine(&text, "states", a.States)
	writeLine(&text, "final", a.Final...)
	for _, r := range a.Rules {
		writeLine(&text, strconv.Itoa(r.Sym), slices.Concat(r.From, []int{r.To})...)
	}
	if text.Len() > api.MaxText {
		return "", api.ErrFull
	}
	return text.String(), api.OK
}

// writeLine appends a line that consists of a word and numbers.
func writeLine(text *strings.Builder, word string, numbers ...int) {
	text.WriteString(scan.Join(word, numbers...))
	text.WriteByte('\n')
}

// Parse returns the automaton whose printed form is text.
func Parse(al api.Alphabet, text string) (api.Automaton, api.Errno) {
	if !tree.ValidAlphabet(al) {
		return api.Automaton{}, api.ErrArg
	}
	if len(text) > api.MaxText {
		return api.Automaton{}, api.ErrFull
	}
	a, ok := read(text)
	if !ok {
		return api.Automaton{}, api.ErrForm
	}
	if !Valid(al, a) {
		return api.Automaton{}, api.ErrArg
	}
	return a, api.OK
}

// read returns the automaton with a printed form, valid or not.
func read(text string) (api.Automaton, bool) {
	body, complete := strings.CutSuffix(text, "\n")
	lines := strings.Split(body, "\n")
	if !complete || len(lines) < 2 {
		return api.Automaton{}, false
	}
	states, ok1 := readLine(lines[0], "states")
	final, ok2 := readLine(lines[1], "final")
	if !ok1 || !ok2 || len(states) != 1 {
		return api.Automaton{}, false
	}
	a := api.Automaton{States: states[0], Final: final}
	for _, line := range lines[2:] {
		numbers, ok := readNumbers(strings.Split(line, " "))
		if !ok || len(numbers) < 2 {
			return api.Automaton{}, false
		}
		last := len(numbers) - 1
		a.Rules = append(a.Rules, api.Rule{Sym: numbers[0], From: slices.Clone(numbers[1:last]), To: numbers[last]})
	}
	return a, true
}

// readLine returns the numbers of a line that begins with a word.
func readLine(line, word string) ([]int, bool) {
	fields := strings.Split(line, " ")
	if fields[0] != word {
		return nil, false
	}
	return readNumbers(fields[1:])
}

func readNumbers(fields []string) ([]int, bool) {
	var numbers []int
	for _, field := range fields {
		number, err := strconv.Atoi(field)
		// Printing it again tells whether it has a sign or leading zeros.
		if err != nil || number < 0 || number > maxNumber || strconv.Itoa(number) != field {
			return nil, false
		}
		numbers = append(numbers, number)
	}
	return numbers, true
}
