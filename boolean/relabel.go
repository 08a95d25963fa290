package boolean

import (
	"boskage/api"
	"boskage/auto"
	"boskage/rule"
	"slices"
)

// Relabel returns an automaton over to that accepts the trees that result from
// those that a accepts by replacing each symbol s by symbols[s].
func Relabel(al, to api.Alphabet, symbols []int, a api.Automaton) (api.Automaton, api.Errno) {
	if !auto.Valid(al, a) || !validAlphabet(to) {
		return api.Automaton{}, api.ErrArg
	}
	if e := checkSymbols(al, to, symbols); e != api.OK {
		return api.Automaton{}, e
	}
	relabeled := rule.Copy(a)
	for i, r := range relabeled.Rules {
		relabeled.Rules[i].Sym = symbols[r.Sym]
	}
	return relabeled, api.OK
}

// Unlabel returns an automaton over al that accepts the trees from which trees
// that a accepts result by replacing each symbol s by symbols[s].
func Unlabel(al, to api.Alphabet, symbols []int, a api.Automaton) (api.Automaton, api.Errno) {
	if !auto.Valid(to, a) || !validAlphabet(al) {
		return api.Automaton{}, api.ErrArg
	}
	if e := checkSymbols(al, to, symbols); e != api.OK {
		return api.Automaton{}, e
	}
	// Rules that are not useful would be multiplied, too.
	trimmed, e := auto.Trim(to, a)
	if e != api.OK {
		return api.Automaton{}, e
	}
	unlabeled := api.Automaton{States: trimmed.States, Final: trimmed.Final}
	for sym, image := range symbols {
		for _, r := range trimmed.Rules {
			if r.Sym == image {
				unlabeled.Rules = append(unlabeled.Rules, api.Rule{Sym: sym, From: slices.Clone(r.From), To: r.To})
			}
		}
	}
	if len(unlabeled.Rules) > api.MaxRules {
		return api.Automaton{}, api.ErrFull
	}
	return unlabeled, api.OK
}

func validAlphabet(al api.Alphabet) bool {
	return auto.Valid(al, api.Automaton{})
}

// checkSymbols returns an error unless symbols has a symbol of to, with the
// same rank, for each symbol of al.
func checkSymbols(al, to api.Alphabet, symbols []int) api.Errno {
	if len(symbols) != len(al.Ranks) {
		return api.ErrDim
	}
	for sym, image := range symbols {
		if image < 0 || image >= len(to.Ranks) || to.Ranks[image] != al.Ranks[sym] {
			return api.ErrRange
		}
	}
	return api.OK
}
