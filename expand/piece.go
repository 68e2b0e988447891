package expand

import (
	"strings"

	"frisket/api"
	"frisket/names"
)

// piece is an escape, or a text without any.
type piece struct {
	text string // as it stands
	kind byte   // the byte behind the \; 0 of a text without any
	name string // of \n, \* and \$; of \w its text
	step int    // of \n
}

func (p piece) named() bool {
	return p.kind == 'n' || p.kind == '*' || p.kind == '$'
}

// walk hands the pieces of a text, with those of the texts of \w, to a function, until that answers false; it tells whether it came to the end.
func walk(s string, goOn func(piece) bool) bool {
	for s != "" {
		p, rest := cut(s)
		if !goOn(p) {
			return false
		}
		if p.kind == 'w' && !walk(p.name, goOn) {
			return false
		}
		s = rest
	}
	return true
}

// cut takes the first piece off a text that is not empty.
func cut(s string) (p piece, rest string) {
	length := strings.IndexByte(s, '\\')
	switch {
	case length < 0:
		length = len(s)
	case length == 0:
		p, length = escape(s)
	}
	p.text = s[:length]
	return p, s[length:]
}

// escape reads the escape that a text begins with. Of a malformed one it takes the \ alone, as a text without any.
func escape(s string) (p piece, length int) {
	if len(s) < 2 {
		return piece{}, 1
	}
	p.kind = s[1]
	rest, used := s[2:], 0
	switch p.kind {
	case 'n':
		p.step, rest = cutStep(rest)
		p.name, used = name(rest)
	case '*', '$':
		p.name, used = name(rest)
	case 'w':
		p.name, used = quoted(rest)
	default:
		return p, 2
	}
	if used == 0 {
		return piece{}, 1
	}
	return p, len(s) - len(rest) + used
}

func cutStep(s string) (step int, rest string) {
	switch {
	case strings.HasPrefix(s, "+"):
		return 1, s[1:]
	case strings.HasPrefix(s, "-"):
		return -1, s[1:]
	}
	return 0, s
}

// name reads the name that a text begins with; used is 0 where there is none.
func name(s string) (name string, used int) {
	switch {
	case s == "":
	case s[0] == '(':
		if len(s) > 2 && inShortName(s[1]) && inShortName(s[2]) {
			return s[1:3], 3
		}
	case s[0] == '[':
		// No further than a name can reach, so that a long text without any ] is not gone through for each [ anew.
		end := strings.IndexByte(s[:min(len(s), api.MaxName+2)], ']')
		if end > 0 && names.Valid(s[1:end]) {
			return s[1:end], end + 1
		}
	case inShortName(s[0]):
		return s[:1], 1
	}
	return "", 0
}

// inShortName tells whether a byte can be a name by itself, or be one of two behind a (.
func inShortName(b byte) bool {
	return 33 <= b && b <= 126 && strings.IndexByte("([+-", b) < 0
}

// quoted reads the text between two of the byte that a text begins with; used is 0 where there is none.
func quoted(s string) (text string, used int) {
	if s == "" || s[0] == '\\' {
		return "", 0
	}
	end := strings.IndexByte(s[1:], s[0])
	if end < 0 {
		return "", 0
	}
	return s[1 : 1+end], end + 2
}
