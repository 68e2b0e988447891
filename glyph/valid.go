package glyph

import (
	"slices"
	"strings"

	"frisket/api"
	"frisket/font"
	"frisket/names"
)

const (
	maxSize    = 1000 // in points
	maxChars   = 2000
	maxPairs   = 100
	maxMove    = 1000000 // of a width, and of a stroke's numbers
	maxNumbers = 40      // of a stroke
	strokes    = "lcea~"
)

// Valid tells whether a box is one of a kind, with nothing in the fields for which its kind has no use.
func Valid(b api.Box) bool {
	if !validMove(b.Width) || b.Font < 0 || b.Size < 0 {
		return false
	}
	noFont := b.Font == 0 && b.Size == 0
	noPaint := b.Colour == "" && len(b.N) == 0
	switch b.Kind {
	case api.Glyph:
		return names.Glyph(b.Name) && validColour(b.Colour) && len(b.N) == 0
	case api.Blank:
		return (b.Name == "" || b.Name == tied) && noPaint
	case api.Right, api.Under, api.Fixed:
		return noFont && b.Name == "" && noPaint
	case api.Stroke:
		return noFont && validStroke(b.Name, b.N) && validColour(b.Colour)
	case api.Point:
		return noFont && b.Name == "" && noPaint && b.Width == 0
	}
	return false
}

func validMove(n int) bool {
	return -maxMove <= n && n <= maxMove
}

func validColour(colour string) bool {
	return colour == "" || names.Colour(colour)
}

// validStroke does not ask how many numbers the letter wants: that is for layer 19.
func validStroke(letter string, numbers []int) bool {
	wrong := func(n int) bool { return !validMove(n) }
	return len(letter) == 1 && strings.Contains(strokes, letter) && len(numbers) <= maxNumbers && !slices.ContainsFunc(numbers, wrong)
}

func validFonts(fonts []font.Font) bool {
	wrong := func(f font.Font) bool { return !font.Valid(f) }
	return !slices.ContainsFunc(fonts, wrong)
}

func validStyle(s Style, fonts int) bool {
	return 0 <= s.Font && s.Font < fonts && validSize(s.Size)
}

func validSize(size int) bool {
	return 1 <= size && size <= maxSize
}

func validChars(chars []string) bool {
	wrong := func(char string) bool { return !names.Glyph(char) }
	return len(chars) <= maxChars && !slices.ContainsFunc(chars, wrong)
}

func validPairs(pairs [][2]string) bool {
	wrong := func(pair [2]string) bool { return !names.Glyph(pair[0]) || !names.Glyph(pair[1]) }
	return len(pairs) <= maxPairs && !slices.ContainsFunc(pairs, wrong)
}
