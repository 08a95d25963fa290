// Package scan reads the texts that the layers print: names and numbers, single
// bytes between them, and blanks. It also writes numbers.
package scan

import (
	"boskage/api"
	"slices"
)

// Failure is the value of the panics by which a parser gives up.
type Failure struct {
	Errno api.Errno
}

// Cause returns the error that a recovered panic stands for.
func Cause(recovered any) api.Errno {
	if f, ok := recovered.(Failure); ok {
		return f.Errno
	}
	return api.ErrForm
}

// Name reports whether s is a letter followed by letters and digits, with at
// most MaxName bytes.
func Name(s string) bool {
	if len(s) == 0 || len(s) > api.MaxName || !letter(s[0]) {
		return false
	}
	return wordEnd(s, 0) == len(s)
}

// Names reports whether list consists of n different names.
func Names(list []string, n int) bool {
	if len(list) != n {
		return false
	}
	for i, s := range list {
		if !Name(s) || slices.Contains(list[:i], s) {
			return false
		}
	}
	return true
}

// Reader divides a text into tokens. A token is a run of letters and digits
// that is as long as possible, or a single other byte; blanks separate tokens
// and belong to none. At the end of the text the token is empty.
type Reader struct {
	text string
	at   int
}

// NewReader returns a reader at the beginning of text.
func NewReader(text string) *Reader {
	return &Reader{text: text}
}

// Peek returns the next token and leaves it in place.
func (r *Reader) Peek() string {
	for r.at < len(r.text) && r.text[r.at] == ' ' {
		r.at++
	}
	if r.at == len(r.text) {
		return ""
	}
	end := wordEnd(r.text, r.at)
	return r.text[r.at:max(end, r.at+1)]
}

// Next returns the next token and moves behind it.
func (r *Reader) Next() string {
	token := r.Peek()
	r.at += len(token)
	return token
}

// Expect moves behind the next token and panics if it is another one.
func (r *Reader) Expect(token string) {
	if r.Next() != token {
		panic(Failure{api.ErrForm})
	}
}

// Pick moves behind the next token, which must be one of the names, and
// returns its number; it panics if the token is not one of them.
func (r *Reader) Pick(names []string) int {
	i := slices.Index(names, r.Next())
	if i < 0 {
		panic(Failure{api.ErrForm})
	}
	return i
}

// wordEnd returns the end of the run of letters and digits that begins at from.
func wordEnd(s string, from int) int {
	for from < len(s) && (letter(s[from]) || digit(s[from])) {
		from++
	}
	return from
}

func letter(c byte) bool {
	return 'a' <= c && c <= 'z' || 'A' <= c && c <= 'Z'
}

func digit(c byte) bool {
	return '0' <= c && c <= '9'
}
