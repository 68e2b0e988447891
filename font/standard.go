package font

import (
	"slices"
	"strings"
)

// Standard tells the standard fonts: R, I, B, M and S.
func Standard() []Font {
	return []Font{roman(), italic(), bold(), typewriter(), special()}
}

func roman() Font {
	return Font{
		Name:   "R",
		Space:  250,
		Glyphs: withLigatures(plainGlyphs(romanWidth), 550),
		Ligs:   ligatures(),
		Kerns:  []Kern{{"A", "V", -80}, {"A", "W", -60}, {"T", "o", -70}, {"V", "A", -80}, {"Y", "o", -90}},
	}
}

func italic() Font {
	narrower := func(b byte) int { return romanWidth(b) - 20 }
	return Font{Name: "I", Space: 250, Glyphs: plainGlyphs(narrower)}
}

func bold() Font {
	wider := func(b byte) int { return romanWidth(b) + 50 }
	return Font{Name: "B", Space: 250, Glyphs: withLigatures(plainGlyphs(wider), 600), Ligs: ligatures()}
}

func typewriter() Font {
	always := func(byte) int { return 600 }
	return Font{Name: "M", Space: 600, Glyphs: plainGlyphs(always)}
}

func special() Font {
	glyphs := []Glyph{
		{"bu", 460}, {"em", 1000}, {"en", 500}, {"hy", 350}, {"sq", 600}, {"mu", 600}, {"di", 600}, {"pl", 600}, {"mi", 600}, {"eq", 600},
		{"<=", 600}, {">=", 600}, {"!=", 600}, {"->", 1000}, {"<-", 1000}, {"sr", 500}, {"is", 400}, {"su", 700}, {"pd", 700}, {"if", 700},
		{"*a", 550}, {"*b", 550}, {"*g", 500}, {"*d", 500}, {"*p", 600}, {"*l", 550}, {"*s", 600}, {"*w", 700},
		{"co", 800}, {"dg", 500}, {"sc", 500}, {"rh", 1000}, {"br", 10}, {"ul", 500}, {"ru", 500},
	}
	slices.SortFunc(glyphs, compareGlyphs)
	return Font{Name: "S", Special: true, Space: 250, Glyphs: glyphs}
}

// plainGlyphs tells the glyphs that are named by one byte.
func plainGlyphs(width func(b byte) int) []Glyph {
	var glyphs []Glyph
	for b := byte('!'); b <= '~'; b++ {
		glyphs = append(glyphs, Glyph{Name: string([]byte{b}), Width: width(b)})
	}
	return glyphs
}

func withLigatures(glyphs []Glyph, width int) []Glyph {
	for _, l := range ligatures() {
		glyphs = append(glyphs, Glyph{Name: l.Is, Width: width})
	}
	slices.SortFunc(glyphs, compareGlyphs)
	return glyphs
}

func ligatures() []Lig {
	return []Lig{{"f", "f", "ff"}, {"f", "i", "fi"}, {"f", "l", "fl"}}
}

func romanWidth(b byte) int {
	isOneOf := func(bytes string) bool { return strings.IndexByte(bytes, b) >= 0 }
	switch {
	case isOneOf("ijltf.,:;'|!`"):
		return 250
	case isOneOf(`()[]{}-rs/\"`):
		return 350
	case isOneOf("mw"):
		return 750
	case isOneOf("MW@%"):
		return 900
	case 'A' <= b && b <= 'Z':
		return 650
	}
	return 500
}
