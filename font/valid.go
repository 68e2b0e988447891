package font

import (
	"cmp"
	"slices"
	"strings"

	"frisket/names"
)

const (
	maxName   = 10 // bytes of a font's name
	maxGlyphs = 400
	maxLigs   = 50
	maxKerns  = 500
	maxKern   = 500 // how far a kern moves, in thousandths of an em
)

// Valid tells whether a font is as the chapter describes one.
func Valid(f Font) bool {
	return validName(f.Name) && validWidth(f.Space) && validGlyphs(f.Glyphs) &&
		validLigs(f.Ligs, f.Glyphs) && validKerns(f.Kerns, f.Glyphs)
}

func validName(name string) bool {
	if len(name) < 1 || len(name) > maxName || !isLetter(name[0]) {
		return false
	}
	for _, b := range []byte(name) {
		if !isLetter(b) && (b < '0' || b > '9') {
			return false
		}
	}
	return true
}

func isLetter(b byte) bool {
	return 'a' <= b && b <= 'z' || 'A' <= b && b <= 'Z'
}

func validWidth(n int) bool {
	return 0 <= n && n <= maxWidth
}

func validGlyphs(glyphs []Glyph) bool {
	if len(glyphs) > maxGlyphs || !ascends(glyphs, compareGlyphs) {
		return false
	}
	for _, g := range glyphs {
		if !names.Glyph(g.Name) || !validWidth(g.Width) {
			return false
		}
	}
	return true
}

// validLigs looks the names up in glyphs that ascend.
func validLigs(ligs []Lig, glyphs []Glyph) bool {
	if len(ligs) > maxLigs || !ascends(ligs, compareLigs) {
		return false
	}
	for _, l := range ligs {
		if !areAmong(glyphs, l.A, l.B, l.Is) {
			return false
		}
	}
	return true
}

// validKerns looks the names up in glyphs that ascend.
func validKerns(kerns []Kern, glyphs []Glyph) bool {
	if len(kerns) > maxKerns || !ascends(kerns, compareKerns) {
		return false
	}
	for _, k := range kerns {
		if k.By < -maxKern || k.By > maxKern || k.By == 0 || !areAmong(glyphs, k.A, k.B) {
			return false
		}
	}
	return true
}

// areAmong looks names up in glyphs that ascend: they are too many to be gone through for each name.
func areAmong(glyphs []Glyph, names ...string) bool {
	for _, name := range names {
		if _, is := slices.BinarySearchFunc(glyphs, Glyph{Name: name}, compareGlyphs); !is {
			return false
		}
	}
	return true
}

// ascends tells whether each of a list is greater than the one ahead of it, so that none is there twice.
func ascends[E any](list []E, compare func(a, b E) int) bool {
	for i := 1; i < len(list); i++ {
		if compare(list[i-1], list[i]) >= 0 {
			return false
		}
	}
	return true
}

func compareGlyphs(g, h Glyph) int {
	return strings.Compare(g.Name, h.Name)
}

func compareLigs(l, m Lig) int {
	return comparePairs(l.A, l.B, m.A, m.B)
}

func compareKerns(k, l Kern) int {
	return comparePairs(k.A, k.B, l.A, l.B)
}

func comparePairs(a, b, c, d string) int {
	return cmp.Or(strings.Compare(a, c), strings.Compare(b, d))
}
