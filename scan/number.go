package scan

import (
	"boskage/api"
	"strconv"
	"strings"
)

// Join returns a word followed by numbers, with a blank before each of them.
func Join(word string, numbers ...int) string {
	var text strings.Builder
	text.WriteString(word)
	for _, number := range numbers {
		text.WriteByte(' ')
		text.WriteString(strconv.Itoa(number))
	}
	return text.String()
}

// Number returns the number that s is, without a sign and leading zeros. It
// panics if s is none, or one that is not less than limit.
func Number(s string, limit int) int {
	number, err := strconv.Atoi(s)
	// Printing it again tells whether it has a sign or leading zeros.
	if err != nil || number < 0 || number >= limit || strconv.Itoa(number) != s {
		panic(Failure{api.ErrForm})
	}
	return number
}

// Number moves behind the next token, which must be a number less than limit,
// and returns it; it panics if the token is none.
func (r *Reader) Number(limit int) int {
	return Number(r.Next(), limit)
}
