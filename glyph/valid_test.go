package glyph_test

import (
	"math"
	"slices"
	"strings"
	"testing"

	"frisket/api"
	"frisket/glyph"
)

// plain makes a valid box of each kind, with as little as it can have.
func plain() []api.Box {
	return []api.Box{{Kind: 0, Name: "a"}, {Kind: 1}, {Kind: 2}, {Kind: 3}, {Kind: 4, Name: "l"}, {Kind: 5}, {Kind: 6}}
}

func checkValid(t *testing.T, b api.Box, want bool) {
	t.Helper()
	if glyph.Valid(b) != want {
		t.Errorf("%+v: %v, want %v", b, !want, want)
	}
}

// isOneOf tells whether a kind is one of some.
func isOneOf(kind int, kinds ...int) bool {
	return slices.Contains(kinds, kind)
}

// P8.2.
func TestValidKinds(t *testing.T) {
	for _, b := range append(plain(), eachKind()...) {
		checkValid(t, b, true)
		b.N = append([]int{}, b.N...)
		checkValid(t, b, true)
	}
	for _, kind := range []int{-1, 7, 8, math.MinInt, math.MaxInt} {
		for _, b := range append(plain(), eachKind()...) {
			b.Kind = kind
			checkValid(t, b, false)
		}
	}
}

// P8.2: numbers at both ends, in each kind that has them, and in those that have not.
func TestValidNumbers(t *testing.T) {
	for _, n := range []int{0, 1, -1, 999999, 1000000, -1000000, 1000001, -1000001, math.MinInt, math.MaxInt} {
		for _, b := range plain() {
			b.Width = n
			checkValid(t, b, n == 0 || -1000000 <= n && n <= 1000000 && b.Kind != 5)
			b.Width, b.Font = 0, n
			checkValid(t, b, n == 0 || n > 0 && isOneOf(b.Kind, 0, 1))
			b.Font, b.Size = 0, n
			checkValid(t, b, n == 0 || n > 0 && isOneOf(b.Kind, 0, 1))
			b.Size, b.N = 0, []int{n}
			checkValid(t, b, b.Kind == 4 && -1000000 <= n && n <= 1000000)
		}
	}
}

// P8.2: a stroke's numbers are at most 40, all of them in their range.
func TestValidStrokes(t *testing.T) {
	for n := range 50 {
		stroke := api.Box{Kind: 4, Name: "~", N: make([]int, n)}
		checkValid(t, stroke, n <= 40)
		for i := range stroke.N {
			stroke.N[i] = -1000001
			checkValid(t, stroke, false)
			stroke.N[i] = 1000000
		}
		checkValid(t, stroke, n <= 40)
	}
	for b := range 256 {
		letter := string([]byte{byte(b)})
		checkValid(t, api.Box{Kind: 4, Name: letter, N: []int{1, 2}}, strings.Contains("lcea~", letter))
		checkValid(t, api.Box{Kind: 4, Name: "l" + letter}, false)
	}
	for _, name := range []string{"", "lc", "lcea~", "a~", "L"} {
		checkValid(t, api.Box{Kind: 4, Name: name}, false)
	}
}

// P8.2: all bytes in the names of glyphs, of spaces and of what has no name.
func TestValidNames(t *testing.T) {
	for b := range 256 {
		one := string([]byte{byte(b)})
		for _, name := range []string{one, one + "a", "a" + one} {
			checkValid(t, api.Box{Name: name}, b >= 33 && b <= 126)
			checkValid(t, api.Box{Kind: 1, Name: name}, name == "~")
			for _, kind := range []int{2, 3, 5, 6} {
				checkValid(t, api.Box{Kind: kind, Name: name}, false)
			}
		}
	}
	for n := range 30 {
		checkValid(t, api.Box{Name: strings.Repeat("n", n)}, n >= 1 && n <= 10)
		checkValid(t, api.Box{Kind: 1, Name: strings.Repeat("~", n)}, n <= 1)
	}
}

// P8.2, with the term of a box: a colour is a name or empty, and just of glyphs and strokes.
func TestValidColours(t *testing.T) {
	for _, box := range plain() {
		coloured := isOneOf(box.Kind, 0, 4)
		for b := range 256 {
			one := string([]byte{byte(b)})
			for _, colour := range []string{one, one + "red", "red" + one} {
				box.Colour = colour
				checkValid(t, box, coloured && b >= 33 && b <= 126)
			}
		}
		for n := range 30 {
			box.Colour = strings.Repeat("c", n)
			checkValid(t, box, n == 0 || coloured && n <= 20)
		}
	}
}

// P8.2: what Boxes and Shift make is valid.
func TestBoxesAreValid(t *testing.T) {
	fonts := few()
	for _, s := range allStyles(len(fonts)) {
		boxes, _, _ := glyph.Boxes(fonts, s, fewChars(), nil)
		shifted, _ := glyph.Shift(append(boxes, eachKind()...), 1000, fonts)
		for _, b := range append(boxes, shifted...) {
			checkValid(t, b, true)
		}
	}
}
