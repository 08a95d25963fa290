package trans_test

import (
	"boskage/api"
	"boskage/sample"
	"boskage/trans"
	"slices"
	"strconv"
	"strings"
	"testing"
)

const exchange = "in 0 2\nout 0 2\nstates 1\ndomain 1 0\nd 0 0\nd 0 1 0 0\naxiom q0.0\nr 0 0 0\nr 0 1 1(q0.1,q0.0)\n"

// checkPrinted checks that a transducer has a printed form and is parsed back.
func checkPrinted(t *testing.T, tr api.Transducer, want string) {
	t.Helper()
	text, e := trans.Print(tr)
	if text != want || e != api.OK {
		t.Errorf("%q, error %d, want %q", text, e, want)
	}
	got, e := trans.Parse(want)
	checkTransducer(t, want, got, e, tr)
}

// P15.7
func TestPrintAndParse(t *testing.T) {
	checkPrinted(t, sample.Exchange(), exchange)
	checkPrinted(t, sample.Doubling(), "in 0 1\nout 0 2\nstates 2\ndomain 1 0\nd 0 0\nd 0 1 0\naxiom q0.0\nr 0 0 0\nr 0 1 1(q0.0,q0.0)\n")
	checkPrinted(t, api.Transducer{Out: api.Alphabet{Ranks: []int{0}}, Domain: api.Topdown{Start: -1}}, "in\nout 0\nstates 0\ndomain 0 -1\naxiom 0\n")
	tr := api.Transducer{In: api.Alphabet{Ranks: []int{3, 1, 0}}, States: 12, Axiom: sample.Call(11, 0)}
	tr.Domain = api.Topdown{States: 11, Start: 10}
	for range 11 {
		tr.Domain.Next = append(tr.Domain.Next, make([][]int, 3))
	}
	tr.Domain.Next[10] = [][]int{{10, 0, 9}, {7}, {}}
	for range 12 {
		tr.Rules = append(tr.Rules, make([][]api.Out, 3))
	}
	tr.Rules[0][0] = []api.Out{sample.Call(0, 2)}
	tr.Rules[11][1] = []api.Out{sample.Call(10, 0)}
	checkPrinted(t, tr, "in 3 1 0\nout\nstates 12\ndomain 11 10\nd 10 0 10 0 9\nd 10 1 7\nd 10 2\naxiom q11.0\nr 0 0 q0.2\nr 11 1 q10.0\n")
	tr = sample.CopyTransducer(sample.Exchange())
	tr.Out.Ranks = []int{0, 1, 3, 0}
	tr.Rules[0][0] = nil
	tr.Rules[0][1][0] = sample.Side(2, sample.Side(1, sample.Side(3)), sample.Side(1, sample.Call(0, 0)), sample.Call(0, 1))
	tr.Axiom, tr.Domain.Start, tr.Domain.Next[0][1] = sample.Side(1, sample.Side(1, sample.Side(0))), -1, nil
	checkPrinted(t, tr, "in 0 2\nout 0 1 3 0\nstates 1\ndomain 1 -1\nd 0 0\naxiom 1(1(0))\nr 0 1 2(1(3),1(q0.0),q0.1)\n")
}

// P15.10
func TestRoundTrip(t *testing.T) {
	sample.ForTransducers(func(tr api.Transducer, _ []api.Tree) {
		text, e := trans.Print(tr)
		if e != api.OK {
			t.Errorf("%s: error %d", sample.ShowTransducer(tr), e)
		}
		got, e := trans.Parse(text)
		checkTransducer(t, text, got, e, tr)
	})
	var s sample.Source
	al := api.Alphabet{Ranks: []int{0, 1, 2, 3, 0, 1, 2, 3, 0, 1, 2, 3}}
	for states := 20; states < 100; states += 7 {
		tr := sample.Transducer(&s, al, al, states, 6, false)
		text, e := trans.Print(tr)
		if e == api.ErrFull && text == "" && states > 40 {
			continue
		}
		got, e2 := trans.Parse(text)
		if e != api.OK {
			t.Errorf("%d states: error %d", states, e)
		}
		checkTransducer(t, "a large transducer", got, e2, tr)
	}
}

// chainText returns the printed form of a transducer, which has n bytes or a few
// less, and that transducer. Each extra symbol adds two bytes to it.
func chainText(n, extra int) (string, api.Transducer) {
	al := api.Alphabet{Ranks: append([]int{0, 1}, make([]int, extra)...)}
	tr := api.Transducer{In: api.Alphabet{Ranks: []int{0, 1}}, Out: al, States: 250, Domain: api.Topdown{Start: -1}, Axiom: sample.Side(0)}
	text := "in 0 1\nout 0 1" + strings.Repeat(" 0", extra) + "\nstates 250\ndomain 0 -1\naxiom 0\n"
	for state := range 250 {
		row := make([][]api.Out, 2)
		for sym := range 2 {
			line := "r " + strconv.Itoa(state) + " " + strconv.Itoa(sym) + " "
			// A chain of nodes has 3 nodes - 2 bytes.
			nodes := min(api.MaxOut, (n-len(text)-len(line)-1+2)/3)
			if nodes < 1 {
				continue
			}
			text += line + strings.Repeat("1(", nodes-1) + "0" + strings.Repeat(")", nodes-1) + "\n"
			row[sym] = []api.Out{sample.ChainSide(nodes, 1, 1, a0())}
		}
		tr.Rules = append(tr.Rules, row)
	}
	return text, tr
}

// P15.7: texts of exactly MaxText bytes, and longer ones.
func TestTextAtTheLimit(t *testing.T) {
	found := map[int]bool{}
	for n := range 40 {
		text, tr := chainText(api.MaxText-20+n, n%3)
		found[len(text)] = true
		printed, e := trans.Print(tr)
		got, e2 := trans.Parse(text)
		if len(text) <= api.MaxText {
			if printed != text || e != api.OK {
				t.Errorf("%d bytes: printed %d, error %d", len(text), len(printed), e)
			}
			checkTransducer(t, "a long text", got, e2, tr)
		} else if printed != "" || e != api.ErrFull || e2 != api.ErrFull || !sample.EqualTransducers(got, api.Transducer{}) {
			t.Errorf("%d bytes: printed %d, errors %d and %d", len(text), len(printed), e, e2)
		}
	}
	if !found[api.MaxText] || !found[api.MaxText+1] {
		t.Errorf("%v", found)
	}
	if text, e := trans.Print(sample.LargeTransducer()); text != "" || e != api.ErrFull {
		t.Errorf("%d bytes, error %d", len(text), e)
	}
}

// P15.7: too many bytes come before another form.
func TestParseLong(t *testing.T) {
	for n, want := range map[int]api.Errno{api.MaxText: api.ErrForm, api.MaxText + 1: api.ErrFull, 1 << 20: api.ErrFull} {
		for _, part := range []string{"x", " ", "(", "0(", "\n", "r 0 0 0\n", "9"} {
			for _, start := range []string{"", "in ", "in 0 2\nout 0 2\nstates 1\ndomain 1 0\nd 0 0\nd 0 1 0 0\naxiom ", exchange} {
				text := (start + strings.Repeat(part, n))[:n]
				got, e := trans.Parse(text)
				if e != want || !sample.EqualTransducers(got, api.Transducer{}) {
					t.Errorf("%d times %q: error %d", n, part, e)
				}
			}
		}
	}
}

// P15.7: each change of one byte, each line left out, doubled or moved. What is
// still accepted is a printed form.
func TestParseChanged(t *testing.T) {
	check := func(text string) bool {
		got, e := trans.Parse(text)
		if e == api.OK {
			printed, e2 := trans.Print(got)
			if printed != text || e2 != api.OK {
				t.Errorf("%q was parsed, printed %q", text, printed)
			}
			return true
		}
		if e != api.ErrForm || !sample.EqualTransducers(got, api.Transducer{}) {
			t.Errorf("%q: error %d", text, e)
		}
		return false
	}
	parsed := 0
	for i := range exchange {
		for _, c := range " \n\t0129-+(),.qrdx\x00\xff" {
			for _, text := range []string{exchange[:i] + string(c) + exchange[i:], exchange[:i] + string(c) + exchange[i+1:], exchange[:i] + exchange[i+1:], exchange[:i]} {
				if check(text) {
					parsed++
				}
			}
		}
	}
	if parsed == 0 {
		t.Error("nothing was parsed")
	}
	lines := strings.SplitAfter(strings.TrimSuffix(exchange, "\n"), "\n")
	lines[len(lines)-1] += "\n"
	for i := range lines {
		for j := range lines {
			moved := slices.Insert(slices.Delete(slices.Clone(lines), i, i+1), j, lines[i])
			if check(strings.Join(moved, "")) != (i == j) {
				t.Errorf("line %d moved to %d", i, j)
			}
			doubled := slices.Insert(slices.Clone(lines), j, lines[i])
			if check(strings.Join(doubled, "")) {
				t.Errorf("line %d doubled at %d", i, j)
			}
		}
	}
}

// P15.7: texts that are not printed forms, or not of valid transducers.
func TestParseBadForm(t *testing.T) {
	replace := func(old, new string) string {
		if !strings.Contains(exchange, old) {
			t.Fatalf("%q is not in the text", old)
		}
		return strings.Replace(exchange, old, new, 1)
	}
	texts := []string{
		"", "\n", "in\n", "in\nout\nstates 0\ndomain 0 -1\naxiom\n", "in\nout\nstates 0\ndomain 0 -1\n", exchange + "\n", " " + exchange, exchange + " ", exchange[:len(exchange)-1],
		strings.ReplaceAll(exchange, "\n", "\r\n"), strings.ReplaceAll(exchange, "\n", " \n"), exchange + exchange, strings.ToUpper(exchange),
		replace("in 0 2", "in 0 4"), replace("in 0 2", "in 0 -2"), replace("in 0 2", "in 0 02"), replace("in 0 2", "in 0  2"), replace("in 0 2", "in0 2"), replace("in 0 2", "in 0 1"), replace("in 0 2", "in 2 0"),
		replace("in 0 2", "in 0 2 0 0 0 0 0 0 0 0 0 0 0"), replace("out 0 2", "out 0 2 0 0 0 0 0 0 0 0 0 0 0"), replace("out 0 2", "out 0 3"), replace("out 0 2", "out 0"), replace("out 0 2", "out 1 2"),
		replace("states 1", "states 0"), replace("states 1", "states 301"), replace("states 1", "states -1"), replace("states 1", "states 01"), replace("states 1", "states"), replace("states 1", "states 1 1"), replace("states 1", "states 99999999999999999999"), replace("states 1", "states 1152921504606846976"),
		replace("domain 1 0", "domain 1 1"), replace("domain 1 0", "domain 1 -2"), replace("domain 1 0", "domain 1 - 1"), replace("domain 1 0", "domain 1 -0"), replace("domain 1 0", "domain 1"), replace("domain 1 0", "domain 0 0"), replace("domain 1 0", "domain 301 0"), replace("domain 1 0", "domain 1 0 0"), replace("domain 1 0", "domain 1152921504606846976 0"),
		replace("d 0 0\n", "d 0\n"), replace("d 0 0\n", "d 1 0\n"), replace("d 0 0\n", "d 0 0 0\n"), replace("d 0 0\n", "d 0 2\n"), replace("d 0 1 0 0", "d 0 1 0 1"), replace("d 0 1 0 0", "d 0 1 0"), replace("d 0 1 0 0", "d 0 1 0 0 0"), replace("d 0 1 0 0", "d 0 1 0 -1"),
		replace("axiom q0.0", "axiom q1.0"), replace("axiom q0.0", "axiom q0.1"), replace("axiom q0.0", "axiom q0"), replace("axiom q0.0", "axiom q.0"), replace("axiom q0.0", "axiom 0.0"), replace("axiom q0.0", "axiom q0 .0"), replace("axiom q0.0", "axiom q00.0"), replace("axiom q0.0", "axiom"), replace("axiom q0.0", "axiom 0()"), replace("axiom q0.0", "axiom 2"), replace("axiom q0.0", "axiom Q0.0"), replace("axiom q0.0", "axiom q0.0 q0.0"),
		replace("r 0 0 0", "r 0 0 1"), replace("r 0 0 0", "r 0 0 q0.0"), replace("r 0 0 0", "r 0 0"), replace("r 0 0 0", "r 0 2 0"), replace("r 0 0 0", "r 1 0 0"), replace("r 0 0 0", "r 0 0 0 0"), replace("r 0 0 0", "r 0 0 -0"), replace("r 0 0 0", "r 0 0 (0)"),
		replace("1(q0.1,q0.0)", "1(q0.1, q0.0)"), replace("1(q0.1,q0.0)", "1 (q0.1,q0.0)"), replace("1(q0.1,q0.0)", "1(q0.1 q0.0)"), replace("1(q0.1,q0.0)", "1(q0.1,q0.0"), replace("1(q0.1,q0.0)", "1(q0.1,q0.0))"), replace("1(q0.1,q0.0)", "1(q0.1)"), replace("1(q0.1,q0.0)", "1(q0.1,q0.0,q0.0)"), replace("1(q0.1,q0.0)", "1(q0.2,q0.0)"), replace("1(q0.1,q0.0)", "1(q0.1,)"), replace("1(q0.1,q0.0)", "1(,q0.0)"), replace("1(q0.1,q0.0)", "1(q0.1,q0.0)(0)"), replace("1(q0.1,q0.0)", "1[q0.1,q0.0]"), replace("1(q0.1,q0.0)", "0(q0.1,q0.0)"), replace("1(q0.1,q0.0)", "q0.1(q0.0)"),
		replace("axiom q0.0", "axiom "+strings.Repeat("1(0,", 20)+"0"+strings.Repeat(")", 20)),
		replace("axiom q0.0", "axiom "+strings.Repeat("1(", 5000)),
	}
	for _, text := range texts {
		got, e := trans.Parse(text)
		if e != api.ErrForm || !sample.EqualTransducers(got, api.Transducer{}) {
			t.Errorf("%.120q: %s, error %d", text, sample.ShowTransducer(got), e)
		}
	}
}
