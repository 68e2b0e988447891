package request

import (
	"strings"

	"frisket/api"
	"frisket/line"
)

// Cond is what decides whether the rest of a line counts.
type Cond struct {
	Not         bool
	Kind        byte   // o, e, t, n, d, r, ' of two texts, or x of an expression
	Name        string // of d and r; of x the expression
	Left, Right string // of '
	Rest        string
}

// Condition reads the condition that a text begins with.
func Condition(s string) (Cond, api.Errno) {
	if !line.ValidText(s) {
		return Cond{}, api.ErrArg
	}
	turned := skipBlanks(s)
	rest := strings.TrimLeft(turned, "!")
	c := Cond{Not: (len(turned)-len(rest))%2 == 1, Kind: kindOf(rest)}
	cutName := func() bool {
		c.Name, rest = cutAtBlank(rest)
		return c.Name != ""
	}
	formed := true
	switch c.Kind {
	case 'd', 'r':
		rest = rest[1:]
		formed = cutName()
	case 'x':
		formed = cutName()
	case '\'':
		c.Left, c.Right, rest, formed = cutTexts(rest)
	default:
		rest = rest[1:]
	}
	if !formed {
		return Cond{}, api.ErrForm
	}
	c.Rest = skipBlanks(rest)
	return c, api.OK
}

// kindOf takes what is nothing at all for an expression, which is then an empty one.
func kindOf(s string) byte {
	switch {
	case s == "" || isBlank(s[0]):
		return 'x'
	case strings.IndexByte("oetndr", s[0]) >= 0:
		return s[0]
	case isLetterOrDigit(s[0]) || strings.IndexByte(`(+-.|\`, s[0]) >= 0:
		return 'x'
	}
	return '\''
}

// cutTexts takes two texts off, each of which ends at the byte that stands ahead of the first.
func cutTexts(s string) (left, right, rest string, ended bool) {
	parts := strings.SplitN(s[1:], s[:1], 3)
	if len(parts) < 3 {
		return "", "", "", false
	}
	return parts[0], parts[1], parts[2], true
}
