package auto_test

import (
	"boskage/api"
	"boskage/auto"
	"boskage/sample"
	"slices"
	"strings"
	"testing"
)

// P3.7
func TestPrint(t *testing.T) {
	tests := []struct {
		a    api.Automaton
		want string
	}{
		{api.Automaton{}, "states 0\nfinal\n"},
		{api.Automaton{States: 300, Final: []int{0, 10, 299}}, "states 300\nfinal 0 10 299\n"},
		{api.Automaton{States: 12, Final: []int{1}, Rules: []api.Rule{
			sample.Rule(3, 1, 0, 11), sample.Rule(0, 0), sample.Rule(2, 10, 11), sample.Rule(0, 0),
		}}, "states 12\nfinal 1\n3 0 11 1\n0 0\n2 11 10\n0 0\n"},
	}
	for _, test := range tests {
		text, e := auto.Print(small, test.a)
		if e != api.OK || text != test.want {
			t.Errorf("%v: %q, error %d", test.a, text, e)
		}
		a, e := auto.Parse(small, test.want)
		checkAutomaton(t, test.want, a, e, test.a)
	}
	text, e := auto.Print(exampleAlphabet, example())
	if e != api.OK || text != "states 2\nfinal 1\n0 0\n1 0 0 1\n1 1 1 0\n" {
		t.Errorf("the example: %q, error %d", text, e)
	}
	al := api.Alphabet{Ranks: []int{0, 0, 0, 0, 0, 0, 0, 0, 0, 0, 0, 3}}
	text, e = auto.Print(al, api.Automaton{States: 300, Rules: []api.Rule{sample.Rule(11, 4, 100, 2, 30)}})
	if e != api.OK || text != "states 300\nfinal\n11 100 2 30 4\n" {
		t.Errorf("rank 3: %q, error %d", text, e)
	}
}

// P3.7: texts of MaxText bytes, and of one more.
func TestTextLimit(t *testing.T) {
	rules := slices.Repeat([]api.Rule{sample.Rule(0, 0)}, 4092)
	fits := api.Automaton{States: 10, Rules: rules}
	text, e := auto.Print(small, fits)
	want := "states 10\nfinal\n" + strings.Repeat("0 0\n", 4092)
	if e != api.OK || text != want || len(text) != api.MaxText {
		t.Errorf("%d bytes, error %d", len(text), e)
	}
	a, e := auto.Parse(small, want)
	checkAutomaton(t, "MaxText", a, e, fits)
	text, e = auto.Print(small, api.Automaton{States: 100, Rules: rules})
	if e != api.ErrFull || text != "" {
		t.Errorf("one byte more: %d bytes, error %d", len(text), e)
	}
	a, e = auto.Parse(small, strings.Replace(want, "10", "100", 1))
	checkRefused(t, "one byte more", a, e, api.ErrFull)
	text, e = auto.Print(small, api.Automaton{States: 1, Rules: slices.Repeat(rules[:1], api.MaxRules)})
	if e != api.ErrFull || text != "" {
		t.Errorf("MaxRules: %d bytes, error %d", len(text), e)
	}
}

// P3.7: texts that are not printed forms.
func TestParseBadForm(t *testing.T) {
	texts := []string{
		"", "\n", "\n\n", "states 0", "states 0\n", "states 0\nfinal", "states 0\n\n", "final\n", "final\nstates 0\n",
		"states\nfinal\n", "states \nfinal\n", "states 1 \nfinal\n", "states 1 1\nfinal\n", "states  1\nfinal\n",
		"states01\nfinal\n", "states1\nfinal\n", " states 1\nfinal\n", "State 1\nfinal\n", "states x\nfinal\n",
		"states 1\nfinal \n", "states 1\nfinal  0\n", "states 1\nfinal 0 \n", "states 1\nfinal0\n", "states 1\nfinals\n",
		"states 1\n final\n", "states 1\nfinal x\n", "states 1\nfinal 0,0\n", "states 1\nFinal\n", "states 1\n\nfinal\n",
		"states 01\nfinal\n", "states 1\nfinal 00\n", "states 1\nfinal\n00 0\n", "states 1\nfinal\n0 00\n",
		"states +1\nfinal\n", "states -1\nfinal\n", "states -0\nfinal\n", "states 1\nfinal -0\n", "states 1\nfinal\n0 -1\n",
		"states 1.0\nfinal\n", "states 1e0\nfinal\n", "states 0x1\nfinal\n", "states 1_0\nfinal\n", "states \u0661\nfinal\n",
		"states 1\nfinal\n0\n", "states 1\nfinal\n0 \n", "states 1\nfinal\n 0 0\n", "states 1\nfinal\n0 0 \n",
		"states 1\nfinal\n0  0\n", "states 1\nfinal\n0 0", "states 1\nfinal\n0 0\n\n", "states 1\nfinal\n\n0 0\n", "states 1\nfinal\n\n",
		"states 1\r\nfinal\r\n", "states 1\nfinal\n0\t0\n", "states 1\nfinal\n0 0\x00\n", "states 1\nfinal\n0 0\nfinal\n", "states 1\nfinal\na 0\n",
		"states 1\nfinal\n0 0\n0 \xff\n",
	}
	for _, number := range []string{"1152921504606846977", "1152921504606847000", "9223372036854775808", "18446744073709551616", "99999999999999999999999999"} {
		texts = append(texts, "states "+number+"\nfinal\n", "states 1\nfinal "+number+"\n", "states 1\nfinal\n"+number+" 0\n", "states 1\nfinal\n0 "+number+"\n", "states 1\nfinal\n2 "+number+" 0\n")
	}
	for _, text := range texts {
		a, e := auto.Parse(small, text)
		if e != api.ErrForm || !sample.Equal(a, api.Automaton{}) {
			t.Errorf("%q: %v, error %d", text, a, e)
		}
	}
}

// P3.7: printed forms of automata that are not valid.
func TestParseNotValid(t *testing.T) {
	texts := []string{
		"states 301\nfinal\n", "states 1\nfinal 1\n", "states 2\nfinal 1 0\n", "states 2\nfinal 1 1\n", "states 0\nfinal 0\n",
		"states 1\nfinal\n4 0\n", "states 1\nfinal\n0 1\n", "states 1\nfinal\n0 0 0\n", "states 1\nfinal\n2 0\n", "states 1\nfinal\n2 0 0 0\n",
		"states 1\nfinal\n3 0 0\n", "states 1\nfinal\n3 0 1 0\n", "states 1\nfinal\n2 0 0 0 0 0 0 0 0\n", "states 0\nfinal\n0 0\n",
		"states 1152921504606846976\nfinal\n", "states 1\nfinal 1152921504606846976\n", "states 1\nfinal\n1152921504606846976 0\n",
		"states 1\nfinal\n0 1152921504606846976\n", "states 1\nfinal\n2 1152921504606846976 0\n",
	}
	for _, text := range texts {
		a, e := auto.Parse(small, text)
		if e != api.ErrArg || !sample.Equal(a, api.Automaton{}) {
			t.Errorf("%q: %v, error %d", text, a, e)
		}
	}
}

// P3.7: of several errors, the first one is returned.
func TestParseOrderOfErrors(t *testing.T) {
	long := strings.Repeat("x", api.MaxText+1)
	for _, al := range sample.BadAlphabets() {
		for _, text := range []string{long, "x", "states 0\nfinal\n", "states 301\nfinal\n"} {
			a, e := auto.Parse(al, text)
			checkRefused(t, "bad alphabet", a, e, api.ErrArg)
		}
	}
	notValid := "states 301\nfinal\n"
	tests := []struct {
		text string
		want api.Errno
	}{
		{long, api.ErrFull},
		{"states 301\nfinal\n" + strings.Repeat("9 9\n", 5000), api.ErrFull},
		{strings.Repeat("x", api.MaxText), api.ErrForm},
		{notValid + "0\n", api.ErrForm},
		{"states 1\nfinal 7\n0 9\n9 9\nx\n", api.ErrForm},
		{notValid, api.ErrArg},
	}
	for _, test := range tests {
		a, e := auto.Parse(small, test.text)
		checkRefused(t, test.text[:6], a, e, test.want)
	}
}

// P3.10, P10
func TestRoundTrip(t *testing.T) {
	forAll(func(al api.Alphabet, a api.Automaton) {
		text, e := auto.Print(al, a)
		checkErrno(t, "Print", e, api.OK)
		b, e := auto.Parse(al, text)
		checkAutomaton(t, text, b, e, a)
	})
	var s sample.Source
	for range 50 {
		a := sample.Automaton(&s, small, 300, 1000)
		text, e := auto.Print(small, a)
		checkErrno(t, "Print", e, api.OK)
		b, e := auto.Parse(small, text)
		checkAutomaton(t, "a large automaton", b, e, a)
	}
}
