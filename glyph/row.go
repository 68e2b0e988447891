package glyph

import (
	"strings"

	"frisket/api"
	"frisket/box"
	"frisket/font"
)

// tied is the Name of a space at which no word ends.
const tied = "~"

// Width tells the width of boxes, which need not be valid.
func Width(l []api.Box) int {
	width := 0
	for _, b := range l {
		switch b.Kind {
		case api.Glyph, api.Blank, api.Right, api.Stroke, api.Fixed:
			width += b.Width
		}
	}
	return width
}

// Split tells the words of boxes, of which there is one more than there are spaces between words.
func Split(l []api.Box) [][]api.Box {
	words := [][]api.Box{nil}
	for _, b := range l {
		if b.Kind == api.Blank && b.Name != tied {
			words = append(words, nil)
			continue
		}
		last := len(words) - 1
		words[last] = append(words[last], box.Copy(b))
	}
	return words
}

// Shift sets the glyphs and the spaces of boxes anew, in another size.
func Shift(l []api.Box, size int, fonts []font.Font) ([]api.Box, api.Errno) {
	if !validSize(size) || !validFonts(fonts) {
		return nil, api.ErrArg
	}
	width := widths(fonts, size)
	shifted := box.Copies(l)
	for i, b := range shifted {
		if b.Kind != api.Glyph && b.Kind != api.Blank {
			continue
		}
		w, err := width(b)
		if err != api.OK {
			return nil, api.ErrArg
		}
		shifted[i].Width, shifted[i].Size = w, size
	}
	return shifted, api.OK
}

// Text tells what boxes, which need not be valid, read like.
func Text(l []api.Box) string {
	var text strings.Builder
	for _, b := range l {
		switch b.Kind {
		case api.Glyph:
			text.WriteString(written(b.Name))
		case api.Blank, api.Fixed:
			text.WriteString(" ")
		}
	}
	return text.String()
}

func written(name string) string {
	if len(name) == 1 {
		return name
	}
	return `\[` + name + "]"
}
