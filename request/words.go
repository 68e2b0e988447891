package request

import (
	"slices"
	"strings"

	"frisket/api"
)

// Words tells the arguments that a text is.
func Words(s string) []string {
	var words []string
	for s = skipBlanks(s); s != ""; s = skipBlanks(s) {
		var word string
		word, s = cutWord(s)
		words = append(words, word)
	}
	return words
}

// Write writes a control line whose words are the arguments.
func Write(name string, args []string) (string, api.Errno) {
	var words strings.Builder
	for _, arg := range args {
		words.WriteString(" " + written(arg))
	}
	line := "." + name + words.String()
	// The length is looked at first, because ErrArg comes ahead of ErrForm.
	if len(line) > api.MaxLine {
		return "", api.ErrArg
	}
	if name == "" || strings.ContainsAny(name, blanks) || strings.Contains(line, "\n") || !slices.Equal(Words(words.String()), args) {
		return "", api.ErrForm
	}
	return line, api.OK
}

// cutWord takes the first word off a text that begins with one.
func cutWord(s string) (word, rest string) {
	quoted := ""
	if s[0] == '"' {
		quoted, s = cutQuoted(s[1:])
	}
	end := 0
	for end < len(s) && !isBlank(s[end]) {
		end = behind(s, end)
	}
	return quoted + s[:end], s[end:]
}

// cutQuoted takes what stands up to the closing quote, or to the end, off a text that stands behind the opening one.
func cutQuoted(s string) (quoted, rest string) {
	var text strings.Builder
	next := 0
	for at := 0; at < len(s); at = next {
		end := behind(s, at)
		next = end
		if s[at] == '"' {
			if !strings.HasPrefix(s[end:], `"`) {
				return text.String(), s[end:]
			}
			next++
		}
		text.WriteString(s[at:end])
	}
	return text.String(), ""
}

func written(arg string) string {
	if arg == "" || strings.ContainsAny(arg, blanks) || arg[0] == '"' || endsInOddRow(arg) {
		return `"` + strings.ReplaceAll(arg, `"`, `""`) + `"`
	}
	return arg
}

// endsInOddRow tells whether the last byte is a \ that belongs to no other, so that it would take what is put behind it.
func endsInOddRow(s string) bool {
	row := len(s) - len(strings.TrimRight(s, `\`))
	return row%2 == 1
}
