package font_test

import (
	"math"
	"strconv"
	"strings"
	"testing"

	"frisket/font"
)

// full makes a font with as much of everything as can be.
func full() font.Font {
	f := font.Font{Name: "Abcdefgh90", Special: true, Space: 3000}
	for i := range 400 {
		f.Glyphs = append(f.Glyphs, font.Glyph{Name: "glyph!~" + strconv.Itoa(100+i), Width: 3000})
	}
	for i := range 50 {
		f.Ligs = append(f.Ligs, font.Lig{A: f.Glyphs[i/5].Name, B: f.Glyphs[i%5].Name, Is: f.Glyphs[399-i].Name})
	}
	for i := range 500 {
		f.Kerns = append(f.Kerns, font.Kern{A: f.Glyphs[i/20].Name, B: f.Glyphs[i%20].Name, By: -500 + i})
	}
	return f
}

// spoilers are the ways to make the font small not valid.
func spoilers() []func(f *font.Font) {
	z := func(f *font.Font) { f.Glyphs = append(f.Glyphs, font.Glyph{Name: "z"}) }
	return []func(f *font.Font){
		func(f *font.Font) { f.Name = "" },
		func(f *font.Font) { f.Name = "4" },
		func(f *font.Font) { f.Name = "a " },
		func(f *font.Font) { f.Name = "abcdefghijk" },
		func(f *font.Font) { f.Space = -1 },
		func(f *font.Font) { f.Space = 3001 },
		func(f *font.Font) { f.Space = math.MinInt },
		func(f *font.Font) { f.Space = math.MaxInt },
		func(f *font.Font) { f.Glyphs[0].Width = -1 },
		func(f *font.Font) { f.Glyphs[1].Width = 3001 },
		func(f *font.Font) { f.Glyphs[3].Width = math.MinInt },
		func(f *font.Font) { f.Glyphs[3].Width = math.MaxInt },
		func(f *font.Font) { f.Glyphs[3].Name = "c " },
		func(f *font.Font) { z(f); f.Glyphs[4].Name = strings.Repeat("z", 11) },
		func(f *font.Font) { f.Glyphs = append([]font.Glyph{{}}, f.Glyphs...) },
		func(f *font.Font) { f.Glyphs[0], f.Glyphs[1] = f.Glyphs[1], f.Glyphs[0] },
		func(f *font.Font) { f.Glyphs[2], f.Glyphs[3] = f.Glyphs[3], f.Glyphs[2] },
		func(f *font.Font) { z(f); z(f) },
		func(f *font.Font) { f.Glyphs = append([]font.Glyph{{Name: "a", Width: 501}}, f.Glyphs...) },
		func(f *font.Font) { f.Ligs[0].A = "0" },
		func(f *font.Font) { f.Ligs[1].A = "x" },
		func(f *font.Font) { f.Ligs[1].B = "x" },
		func(f *font.Font) { f.Ligs[1].Is = "x" },
		func(f *font.Font) { f.Ligs[0].Is = "" },
		func(f *font.Font) { f.Ligs[0], f.Ligs[1] = f.Ligs[1], f.Ligs[0] },
		func(f *font.Font) { f.Ligs[1] = font.Lig{A: "a", B: "a", Is: "c"} },
		func(f *font.Font) { f.Ligs[1] = f.Ligs[0] },
		func(f *font.Font) { f.Ligs[1] = font.Lig{A: "a", B: "b", Is: "c"} },
		func(f *font.Font) { f.Kerns[0].A = "0" },
		func(f *font.Font) { f.Kerns[3].A = "x" },
		func(f *font.Font) { f.Kerns[3].B = "x" },
		func(f *font.Font) { f.Kerns[1].By = 0 },
		func(f *font.Font) { f.Kerns[1].By = 501 },
		func(f *font.Font) { f.Kerns[0].By = -501 },
		func(f *font.Font) { f.Kerns[3].By = math.MinInt },
		func(f *font.Font) { f.Kerns[3].By = math.MaxInt },
		func(f *font.Font) { f.Kerns[0], f.Kerns[1] = f.Kerns[1], f.Kerns[0] },
		func(f *font.Font) { f.Kerns[1], f.Kerns[2] = f.Kerns[2], f.Kerns[1] },
		func(f *font.Font) { f.Kerns[3] = f.Kerns[2] },
		func(f *font.Font) { f.Kerns[3] = font.Kern{A: "b", B: "a", By: 1} },
	}
}

// P7.2, with the term of a font.
func TestValid(t *testing.T) {
	for _, f := range []font.Font{small(), full(), {Name: "a"}, {Name: "Z9"}, {Name: "X", Glyphs: []font.Glyph{}, Ligs: []font.Lig{}, Kerns: []font.Kern{}}} {
		if !font.Valid(f) {
			t.Errorf("not valid: %+v", f)
		}
	}
	for i, f := range notValid() {
		if font.Valid(f) {
			t.Errorf("valid: wrong font %d: %+v", i, f)
		}
	}
	if font.Valid(font.Font{}) {
		t.Error("valid: the zero font")
	}
}

// P7.2, with the term of a font: what a font can be at most, and one more of it.
func TestLimitsOfLists(t *testing.T) {
	for i, spoil := range []func(f *font.Font){
		func(f *font.Font) { f.Glyphs = append(f.Glyphs, font.Glyph{Name: "z", Width: 1}) },
		func(f *font.Font) { f.Ligs = append(f.Ligs, font.Lig{A: f.Glyphs[20].Name, B: "x", Is: "x"}) },
		func(f *font.Font) {
			f.Ligs = append(f.Ligs, font.Lig{A: f.Glyphs[20].Name, B: f.Glyphs[0].Name, Is: f.Glyphs[0].Name})
		},
		func(f *font.Font) {
			f.Kerns = append(f.Kerns, font.Kern{A: f.Glyphs[50].Name, B: f.Glyphs[0].Name, By: 1})
		},
		func(f *font.Font) { f.Name += "a" },
		func(f *font.Font) { f.Glyphs[399].Name += "0" },
	} {
		f := full()
		spoil(&f)
		if font.Valid(f) {
			t.Errorf("spoiled by %d", i)
		}
	}
	fewer := full()
	fewer.Ligs, fewer.Kerns = fewer.Ligs[:49], fewer.Kerns[:499]
	if !font.Valid(fewer) {
		t.Error("fewer of them")
	}
}

func isLetter(b int) bool { return b >= 'a' && b <= 'z' || b >= 'A' && b <= 'Z' }

func isDigit(b int) bool { return b >= '0' && b <= '9' }

// P7.2, with the terms of a font's name and of a glyph's.
func TestNames(t *testing.T) {
	for b := range 256 {
		one := string([]byte{byte(b)})
		if font.Valid(font.Font{Name: one}) != isLetter(b) || font.Valid(font.Font{Name: one + "a"}) != isLetter(b) {
			t.Errorf("a font named %q", one)
		}
		for _, name := range []string{"a" + one, "a" + one + "a", "abcdefghi" + one} {
			if font.Valid(font.Font{Name: name}) != (isLetter(b) || isDigit(b)) {
				t.Errorf("a font named %q", name)
			}
		}
		for _, name := range []string{one, "a" + one, one + "a", "abcdefghi" + one} {
			if font.Valid(font.Font{Name: "X", Glyphs: []font.Glyph{{Name: name}}}) != (b >= 33 && b <= 126) {
				t.Errorf("a glyph named %q", name)
			}
		}
	}
	for n := range 40 {
		name := strings.Repeat("n", n)
		is := n >= 1 && n <= 10
		if font.Valid(font.Font{Name: name}) != is || font.Valid(font.Font{Name: "X", Glyphs: []font.Glyph{{Name: name}}}) != is {
			t.Errorf("names of %d bytes", n)
		}
	}
}

// P7.2, with the terms: widths are from 0 to 3000, kerns from -500 to 500 without 0.
func TestNumbers(t *testing.T) {
	for n := -3100; n <= 3100; n++ {
		is := n >= 0 && n <= 3000
		if font.Valid(font.Font{Name: "X", Space: n}) != is || font.Valid(font.Font{Name: "X", Glyphs: []font.Glyph{{"a", n}}}) != is {
			t.Errorf("width %d", n)
		}
		kerned := font.Font{Name: "X", Glyphs: []font.Glyph{{"a", 1}}, Kerns: []font.Kern{{"a", "a", n}}}
		if font.Valid(kerned) != (n >= -500 && n <= 500 && n != 0) {
			t.Errorf("kern %d", n)
		}
	}
}

// P7.2, with the term of a font: all lists of three glyphs, ligatures and kerns of a few names.
func TestOrders(t *testing.T) {
	names := []string{"!", "A", "a", "aa", "b", "~"}
	for _, a := range names {
		for _, b := range names {
			for _, c := range names {
				checkOrder(t, [3]string{a, b, c})
			}
		}
	}
}

func checkOrder(t *testing.T, n [3]string) {
	t.Helper()
	f := font.Font{Name: "X", Glyphs: []font.Glyph{{n[0], 1}, {n[1], 1}, {n[2], 1}}}
	if font.Valid(f) != (n[0] < n[1] && n[1] < n[2]) {
		t.Errorf("glyphs %q", n)
	}
	all := []font.Glyph{{"!", 1}, {"A", 1}, {"a", 1}, {"aa", 1}, {"b", 1}, {"~", 1}}
	for _, other := range []string{"!", "a", "aa", "~"} {
		is := n[0] < n[1] || n[0] == n[1] && n[2] < other
		ligs := []font.Lig{{n[0], n[2], "a"}, {n[1], other, "A"}}
		kerns := []font.Kern{{n[0], n[2], 1}, {n[1], other, 2}}
		if font.Valid(font.Font{Name: "X", Glyphs: all, Ligs: ligs}) != is || font.Valid(font.Font{Name: "X", Glyphs: all, Kerns: kerns}) != is {
			t.Errorf("pairs %q %q and %q %q", n[0], n[2], n[1], other)
		}
	}
}
