package font_test

import (
	"reflect"
	"sort"
	"strconv"
	"strings"
	"testing"

	"frisket/font"
)

// The widths as the chapter writes them, each class with its bytes and the blanks between them.
var romanClasses = []struct {
	width int
	bytes string
}{
	{250, "i j l t f . , : ; ' | ! \x60"},
	{350, "( ) [ ] { } - r s / \\ \""},
	{750, "m w"},
	{900, "M W @ %"},
	{650, "A B C D E F G H I J K L N O P Q R S T U V X Y Z"},
	{500, "0 1 2 3 4 5 6 7 8 9"},
	{500, "# $ & * + < = > ? ^ _ ~ a b c d e g h k n o p q u v x y z"},
}

const symbolWidths = `bu 460, em 1000, en 500, hy 350, sq 600, mu 600, di 600, pl 600, mi 600, eq 600, <= 600, >= 600, != 600, -> 1000, <- 1000, sr 500, is 400, su 700, pd 700, if 700, *a 550, *b 550, *g 500, *d 500, *p 600, *l 550, *s 600, *w 700, co 800, dg 500, sc 500, rh 1000, br 10, ul 500, ru 500`

func byName(glyphs []font.Glyph) []font.Glyph {
	sort.Slice(glyphs, func(i, k int) bool { return glyphs[i].Name < glyphs[k].Name })
	return glyphs
}

// plain makes the glyphs of the 94 bytes, as wide as a function of the width in R tells.
func plain(width func(roman int) int) []font.Glyph {
	var glyphs []font.Glyph
	for _, c := range romanClasses {
		for name := range strings.FieldsSeq(c.bytes) {
			glyphs = append(glyphs, font.Glyph{Name: name, Width: width(c.width)})
		}
	}
	return byName(glyphs)
}

func symbols(t *testing.T) []font.Glyph {
	t.Helper()
	var glyphs []font.Glyph
	for entry := range strings.SplitSeq(symbolWidths, ", ") {
		name, digits, _ := strings.Cut(entry, " ")
		width, err := strconv.Atoi(digits)
		if err != nil {
			t.Fatal(entry)
		}
		glyphs = append(glyphs, font.Glyph{Name: name, Width: width})
	}
	return byName(glyphs)
}

// P7.2, with the term of the standard fonts.
func TestStandard(t *testing.T) {
	ligs := []font.Lig{{"f", "f", "ff"}, {"f", "i", "fi"}, {"f", "l", "fl"}}
	roman := plain(func(w int) int { return w })
	if len(roman) != 94 || len(symbols(t)) != 35 {
		t.Fatal("the test's own lists", len(roman), len(symbols(t)))
	}
	roman = byName(append(roman, font.Glyph{Name: "ff", Width: 550}, font.Glyph{Name: "fi", Width: 550}, font.Glyph{Name: "fl", Width: 550}))
	bold := byName(append(plain(func(w int) int { return w + 50 }), font.Glyph{Name: "ff", Width: 600}, font.Glyph{Name: "fi", Width: 600}, font.Glyph{Name: "fl", Width: 600}))
	want := []font.Font{
		{Name: "R", Space: 250, Glyphs: roman, Ligs: ligs, Kerns: []font.Kern{{"A", "V", -80}, {"A", "W", -60}, {"T", "o", -70}, {"V", "A", -80}, {"Y", "o", -90}}},
		{Name: "I", Space: 250, Glyphs: plain(func(w int) int { return w - 20 })},
		{Name: "B", Space: 250, Glyphs: bold, Ligs: ligs},
		{Name: "M", Space: 600, Glyphs: plain(func(int) int { return 600 })},
		{Name: "S", Special: true, Space: 250, Glyphs: symbols(t)},
	}
	got := font.Standard()
	if len(got) != len(want) {
		t.Fatal("fonts", len(got))
	}
	for i := range want {
		if !font.Same(got[i], want[i]) {
			t.Errorf("font %d: %+v; want %+v", i, got[i], want[i])
		}
	}
}

// P7.3.
func TestStandardIsValid(t *testing.T) {
	for _, f := range font.Standard() {
		if !font.Valid(f) {
			t.Errorf("%+v", f)
		}
	}
}

// P7.2: R5 of the document: results are new memory, and no two lists of one share it.
func TestStandardIsNew(t *testing.T) {
	first, second := font.Standard(), font.Standard()
	for i := range first {
		wipe(&first[i])
		for k := i + 1; k < len(first); k++ {
			if !font.Valid(first[k]) {
				t.Errorf("font %d changed with font %d", k, i)
			}
		}
	}
	first[0] = font.Font{}
	if !reflect.DeepEqual(second, font.Standard()) || font.Same(first[1], second[1]) {
		t.Error("changed")
	}
	f := small()
	text, _ := font.Write(f)
	parsed, _ := font.Parse(text)
	wipe(&parsed)
	if again, _ := font.Parse(text); !font.Same(again, f) {
		t.Error("Parse")
	}
}

func wipe(f *font.Font) {
	clear(f.Glyphs)
	clear(f.Ligs)
	clear(f.Kerns)
}
