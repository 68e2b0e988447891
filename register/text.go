package register

import (
	"strconv"
	"strings"

	"frisket/api"
)

const (
	plainForm = "0"
	maxWidth  = 9     // digits of a format
	maxRoman  = 39999 // with 39 times m
)

// numerals has the greater ones first, because a roman text is written, and read, from them down.
var numerals = [...]struct {
	value int
	text  string
}{
	{1000, "m"}, {900, "cm"}, {500, "d"}, {400, "cd"}, {100, "c"}, {90, "xc"}, {50, "l"}, {40, "xl"}, {10, "x"}, {9, "ix"}, {5, "v"}, {4, "iv"}, {1, "i"},
}

// Write writes a number by a format.
func Write(n int, form string) (string, api.Errno) {
	if err := formError(form); err != api.OK {
		return "", err
	}
	if err := rangeError(n); err != api.OK {
		return "", err
	}
	return text(n, form), api.OK
}

// Roman reads a number that Write wrote with the format i or I, from 1 on.
func Roman(s string) (int, api.Errno) {
	n := romanValue(strings.ToLower(s))
	if n < 1 || n > maxRoman {
		return 0, api.ErrForm
	}
	// What the sum lets pass, like letters of both sizes or a rest, is not what Write writes.
	if s != text(n, "i") && s != text(n, "I") {
		return 0, api.ErrForm
	}
	return n, api.OK
}

func formError(form string) api.Errno {
	switch form {
	case "i", "I", "a", "A":
		return api.OK
	}
	if len(form) < 1 || len(form) > maxWidth || strings.Trim(form, "0123456789") != "" {
		return api.ErrForm
	}
	return api.OK
}

// text writes a number that is in the range by a format that is one.
func text(n int, form string) string {
	if n < 0 {
		return "-" + text(-n, form)
	}
	switch form {
	case "i":
		return roman(n)
	case "I":
		return strings.ToUpper(roman(n))
	case "a":
		return letters(n)
	case "A":
		return strings.ToUpper(letters(n))
	}
	digits := strconv.Itoa(n)
	return strings.Repeat("0", max(0, len(form)-len(digits))) + digits
}

func roman(n int) string {
	if n == 0 || n > maxRoman {
		return strconv.Itoa(n)
	}
	var written strings.Builder
	for _, numeral := range numerals {
		for n >= numeral.value {
			written.WriteString(numeral.text)
			n -= numeral.value
		}
	}
	return written.String()
}

// romanValue is the sum of the numerals from the greatest down, as far as a text has them so.
func romanValue(s string) int {
	sum := 0
	for _, numeral := range numerals {
		for strings.HasPrefix(s, numeral.text) {
			sum += numeral.value
			s = s[len(numeral.text):]
		}
	}
	return sum
}

func letters(n int) string {
	if n == 0 {
		return "0"
	}
	written := ""
	for ; n > 0; n = (n - 1) / 26 {
		written = string(rune('a'+(n-1)%26)) + written
	}
	return written
}
