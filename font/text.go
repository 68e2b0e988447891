package font

import (
	"strconv"
	"strings"

	"frisket/api"
)

// Parse reads the description that Write writes of a valid font.
func Parse(s string) (Font, api.Errno) {
	f := read(s)
	// Whatever read has passed over, or taken in another form, is not written like that again.
	written, err := Write(f)
	if err != api.OK || written != s {
		return Font{}, api.ErrForm
	}
	return f, api.OK
}

// Write writes a font's description.
func Write(f Font) (string, api.Errno) {
	if !Valid(f) {
		return "", api.ErrArg
	}
	words := []string{"font", f.Name}
	if f.Special {
		words = append(words, "special")
	}
	var text strings.Builder
	text.WriteString(line(words...))
	text.WriteString(line("space", strconv.Itoa(f.Space)))
	for _, g := range f.Glyphs {
		text.WriteString(line("g", g.Name, strconv.Itoa(g.Width)))
	}
	for _, l := range f.Ligs {
		text.WriteString(line("l", l.A, l.B, l.Is))
	}
	for _, k := range f.Kerns {
		text.WriteString(line("k", k.A, k.B, strconv.Itoa(k.By)))
	}
	return text.String(), api.OK
}

func line(words ...string) string {
	return strings.Join(words, " ") + "\n"
}

// read takes what it finds of a font, wherever that stands in the text.
func read(s string) Font {
	var f Font
	// No description of a valid font comes near this length, so that a longer text need not be kept as a font.
	if len(s) > api.MaxText {
		return f
	}
	for l := range strings.Lines(s) {
		take(&f, strings.Split(strings.TrimSuffix(l, "\n"), " "))
	}
	return f
}

// take adds what the words of one line tell.
func take(f *Font, words []string) {
	kind := words[0]
	switch len(words) {
	case 2:
		if kind == "font" {
			f.Name = words[1]
		} else if kind == "space" {
			f.Space = number(words[1])
		}
	case 3:
		if kind == "font" {
			f.Name, f.Special = words[1], true
		} else if kind == "g" {
			f.Glyphs = append(f.Glyphs, Glyph{Name: words[1], Width: number(words[2])})
		}
	case 4:
		if kind == "l" {
			f.Ligs = append(f.Ligs, Lig{A: words[1], B: words[2], Is: words[3]})
		} else if kind == "k" {
			f.Kerns = append(f.Kerns, Kern{A: words[1], B: words[2], By: number(words[3])})
		}
	}
}

// number is 0 of what is no number, which is not written like that again.
func number(s string) int {
	n, err := strconv.Atoi(s)
	if err != nil {
		return 0
	}
	return n
}
