package glyph_test

import (
	"math"
	"reflect"
	"slices"
	"strconv"
	"strings"
	"testing"

	"frisket/api"
	"frisket/font"
	"frisket/glyph"
)

// few makes valid fonts of few glyphs: some in several fonts, ligatures of ligatures, kerns that small sizes make nothing.
func few() []font.Font {
	var fonts []font.Font
	for _, text := range []string{
		"font One;space 250;g a 501;g ab 600;g aba 777;g b 40;l a b ab;l ab a aba;l aba b b;k a a 99;k ab b -33;k b a -1;k b aba 500;",
		"font Two;space 601;g a 10;g z 3000;",
		"font Three special;space 7;g a 1;g s 333;g t 0;l s s t;k a s 110;k s t 55;k t s -250;",
		"font Four special;space 3000;g s 2000;g u 10;g z 77;k u s 77;k u z 300;",
	} {
		f, err := font.Parse(strings.ReplaceAll(text, ";", "\n"))
		if err != api.OK {
			panic("no font: " + text)
		}
		fonts = append(fonts, f)
	}
	return fonts
}

// fewChars are the chars of the fonts few, and one that none of them has.
func fewChars() []string {
	return []string{"a", "ab", "b", "s", "t", "u", "x", "z"}
}

// allStyles makes the styles of some fonts, at a size that makes small kerns nothing, and at a great one.
func allStyles(fonts int) []glyph.Style {
	var styles []glyph.Style
	for f := range fonts {
		for _, size := range []int{1, 97} {
			for _, on := range [][2]bool{{false, false}, {false, true}, {true, false}, {true, true}} {
				styles = append(styles, glyph.Style{Font: f, Size: size, Ligs: on[0], Kerns: on[1]})
			}
		}
	}
	return styles
}

// rows makes all rows of at most so many of a list.
func rows[E any](list []E, most int) [][]E {
	all := [][]E{nil}
	for from := 0; most > 0; most-- {
		to := len(all)
		for _, row := range all[from:to] {
			for _, e := range list {
				all = append(all, append(slices.Clone(row), e))
			}
		}
		from = to
	}
	return all
}

// down divides by 1000, rounded down.
func down(n int) int {
	return int(math.Floor(float64(n) / 1000))
}

func modelTranslated(char string, pairs [][2]string) string {
	for _, p := range pairs {
		if p[0] == char {
			return p[1]
		}
	}
	return char
}

// modelJoined joins the first two, if they have a ligature, as long as they have one, then the rest.
func modelJoined(f font.Font, chars []string) []string {
	if len(chars) < 2 {
		return chars
	}
	for _, l := range f.Ligs {
		if l.A == chars[0] && l.B == chars[1] {
			return modelJoined(f, append([]string{l.Is}, chars[2:]...))
		}
	}
	return append([]string{chars[0]}, modelJoined(f, chars[1:])...)
}

func modelFont(fonts []font.Font, s glyph.Style, char string) (at, width int) {
	order := []int{s.Font}
	for i, f := range fonts {
		if f.Special {
			order = append(order, i)
		}
	}
	for _, at := range order {
		for _, g := range fonts[at].Glyphs {
			if g.Name == char {
				return at, down(10 * s.Size * g.Width)
			}
		}
	}
	return -1, 0
}

func modelKern(f font.Font, a, b string, size int) int {
	for _, k := range f.Kerns {
		if k.A == a && k.B == b {
			return down(10 * size * k.By)
		}
	}
	return 0
}

// model is another way to what Boxes answers of what is right.
func model(fonts []font.Font, s glyph.Style, chars []string, pairs [][2]string) (boxes []api.Box, missing []string) {
	var names []string
	for _, char := range chars {
		names = append(names, modelTranslated(char, pairs))
	}
	if s.Ligs {
		names = modelJoined(fonts[s.Font], names)
	}
	before := api.Box{Font: -1}
	for _, name := range names {
		at, width := modelFont(fonts, s, name)
		if at < 0 {
			missing = append(missing, name)
			continue
		}
		if s.Kerns && before.Font == at {
			if by := modelKern(fonts[at], before.Name, name, s.Size); by != 0 {
				boxes = append(boxes, api.Box{Kind: 2, Width: by})
			}
		}
		before = api.Box{Kind: 0, Width: width, Font: at, Size: s.Size, Name: name}
		boxes = append(boxes, before)
	}
	return boxes, missing
}

func same(a, b []api.Box) bool {
	return len(a) == 0 && len(b) == 0 || reflect.DeepEqual(a, b)
}

func checkBoxes(t *testing.T, fonts []font.Font, s glyph.Style, chars []string, pairs [][2]string) {
	t.Helper()
	want, wantMissing := model(fonts, s, chars, pairs)
	got, missing, err := glyph.Boxes(fonts, s, chars, pairs)
	if err != api.OK || !same(got, want) || !slices.Equal(missing, wantMissing) {
		t.Errorf("Boxes of %q in %+v: %v, missing %q, error %d; want %v, missing %q", chars, s, got, missing, err, want, wantMissing)
	}
}

func checkNoBoxes(t *testing.T, what string, fonts []font.Font, s glyph.Style, chars []string, pairs [][2]string) {
	t.Helper()
	boxes, missing, err := glyph.Boxes(fonts, s, chars, pairs)
	if err != api.ErrArg || boxes != nil || missing != nil {
		t.Errorf("%s: %v, missing %q, error %d; want error %d", what, boxes, missing, err, api.ErrArg)
	}
}

// P8.2: all rows of up to three chars, in all styles.
func TestBoxes(t *testing.T) {
	fonts := few()
	for _, chars := range rows(fewChars(), 3) {
		for _, s := range allStyles(len(fonts)) {
			checkBoxes(t, fonts, s, chars, nil)
		}
	}
}

// P8.2: longer rows, of chars that are joined again and again.
func TestLongBoxes(t *testing.T) {
	fonts := few()
	for _, chars := range rows([]string{"a", "b", "x", "s"}, 6) {
		for _, f := range []int{0, 2} {
			checkBoxes(t, fonts, glyph.Style{Font: f, Size: 10, Ligs: true, Kerns: true}, chars, nil)
		}
	}
}

// P8.2: a special font ahead of the style's, and one that is the style's.
func TestSpecialFontInFront(t *testing.T) {
	fonts := few()
	slices.Reverse(fonts)
	for _, chars := range rows(fewChars(), 2) {
		for _, s := range allStyles(len(fonts)) {
			checkBoxes(t, fonts, s, chars, nil)
		}
	}
}

// P8.2: pairs of which several are of one char, that lead on, that make chars missing, and that give ligatures something.
func TestTranslation(t *testing.T) {
	fonts := few()
	tables := [][][2]string{
		{{"a", "b"}, {"b", "a"}},
		{{"a", "b"}, {"b", "s"}, {"s", "x"}, {"a", "z"}},
		{{"x", "a"}, {"x", "b"}, {"z", "b"}},
		{{"a", "a"}, {"a", "x"}, {"b", "y"}},
		{{"u", "0123456789"}, {"nosuch", "a"}, {"ab", "s"}},
	}
	for _, pairs := range tables {
		for _, chars := range rows(fewChars(), 3) {
			for _, kerns := range []bool{false, true} {
				checkBoxes(t, fonts, glyph.Style{Size: 30, Ligs: true, Kerns: kerns}, chars, pairs)
			}
		}
	}
}

// checkText holds Text and the missing names of some chars, in the standard fonts, against what is written out here.
func checkText(t *testing.T, s glyph.Style, chars, pairs, want, wantMissing string) {
	t.Helper()
	var table [][2]string
	for _, pair := range strings.Fields(pairs) {
		table = append(table, [2]string{pair[:1], pair[1:]})
	}
	boxes, missing, err := glyph.Boxes(font.Standard(), s, strings.Fields(chars), table)
	if text := glyph.Text(boxes); err != api.OK || text != want || strings.Join(missing, " ") != wantMissing {
		t.Errorf("%s: %s, missing %s, error %d; want %s, missing %s", chars, text, missing, err, want, wantMissing)
	}
}

// P8.2, without the model.
func TestWrittenOut(t *testing.T) {
	on, off := glyph.Style{Size: 10, Ligs: true}, glyph.Style{Size: 10}
	checkText(t, on, "f i", "", `\[fi]`, "")
	checkText(t, off, "f i", "", "fi", "")
	checkText(t, on, "f f f i x f f i", "", `\[ff]\[fi]x\[ff]i`, "")
	checkText(t, on, "f i", "fx", "xi", "")
	checkText(t, on, "x i", "xf", `\[fi]`, "")
	checkText(t, off, "a b c", "ab bc bd", "bcc", "")
	checkText(t, on, "a ?? b ?? no", "", "ab", "?? ?? no")
	checkText(t, on, "f ?? i", "", "fi", "??")
	checkText(t, on, "a ??", "aNO", "", "NO ??")
	checkText(t, on, "bu f i", "", `\[bu]\[fi]`, "")
	checkText(t, glyph.Style{Font: 1, Size: 10, Ligs: true}, "f i fi", "", "fi", "fi")
	checkText(t, glyph.Style{Font: 4, Size: 10, Ligs: true}, "f i bu", "", `\[bu]`, "f i")
}

// P8.2: what stands in each field, in the standard fonts.
func TestFields(t *testing.T) {
	style := glyph.Style{Font: 2, Size: 20, Ligs: true, Kerns: true}
	got, missing, err := glyph.Boxes(font.Standard(), style, []string{"f", "l", "A", "V", "sq"}, nil)
	want := []api.Box{
		{Kind: api.Glyph, Width: 120, Font: 2, Size: 20, Name: "fl"},
		{Kind: api.Glyph, Width: 140, Font: 2, Size: 20, Name: "A"},
		{Kind: api.Glyph, Width: 140, Font: 2, Size: 20, Name: "V"},
		{Kind: api.Glyph, Width: 120, Font: 4, Size: 20, Name: "sq"},
	}
	if err != api.OK || len(missing) != 0 || !same(got, want) {
		t.Error(got, missing, err)
	}
	style.Font = 0
	got, missing, err = glyph.Boxes(font.Standard(), style, []string{"A", "no", "V"}, nil)
	want = []api.Box{
		{Kind: api.Glyph, Width: 130, Size: 20, Name: "A"}, {Kind: api.Right, Width: -16}, {Kind: api.Glyph, Width: 130, Size: 20, Name: "V"},
	}
	if err != api.OK || !slices.Equal(missing, []string{"no"}) || !same(got, want) {
		t.Error(got, missing, err)
	}
}

// P8.1: a font that is not valid, wherever it is.
func TestWrongFonts(t *testing.T) {
	s := glyph.Style{Size: 10}
	spoilers := []func(f *font.Font){
		func(f *font.Font) { f.Name = "" },
		func(f *font.Font) { f.Space = -1 },
		func(f *font.Font) { f.Glyphs[0].Width = 3001 },
		func(f *font.Font) { f.Glyphs[0], f.Glyphs[1] = f.Glyphs[1], f.Glyphs[0] },
		func(f *font.Font) { f.Ligs = []font.Lig{{A: "a", B: "a", Is: "none"}} },
		func(f *font.Font) { f.Kerns = []font.Kern{{A: "a", B: "a", By: 0}} },
	}
	for i, spoil := range spoilers {
		for at := range few() {
			fonts := few()
			spoil(&fonts[at])
			what := "font " + strconv.Itoa(at) + " spoiled by " + strconv.Itoa(i)
			checkNoBoxes(t, what, fonts, s, []string{"a"}, nil)
			checkNoBoxes(t, what, fonts, s, nil, nil)
			checkNoShift(t, what, nil, 10, fonts)
			checkNoShift(t, what, []api.Box{{Kind: api.Right, Width: 1}}, 10, fonts)
		}
	}
	checkNoBoxes(t, "no fonts", nil, s, nil, nil)
	checkNoBoxes(t, "the zero font", []font.Font{{}}, s, nil, nil)
}

// P8.1, with both ends of what a style can be.
func TestStyles(t *testing.T) {
	fonts := few()
	for _, f := range []int{-1, 4, 5, math.MinInt, math.MaxInt} {
		checkNoBoxes(t, "font "+strconv.Itoa(f), fonts, glyph.Style{Font: f, Size: 10}, []string{"a"}, nil)
	}
	for _, size := range []int{0, -1, 1001, math.MinInt, math.MaxInt} {
		checkNoBoxes(t, "size "+strconv.Itoa(size), fonts, glyph.Style{Size: size}, []string{"a"}, nil)
		checkNoBoxes(t, "size "+strconv.Itoa(size), fonts, glyph.Style{Size: size}, nil, nil)
	}
	for f := range fonts {
		for _, size := range []int{1, 2, 999, 1000} {
			checkBoxes(t, fonts, glyph.Style{Font: f, Size: size, Ligs: true, Kerns: true}, fewChars(), nil)
			checkBoxes(t, fonts, glyph.Style{Font: f, Size: size, Ligs: true, Kerns: true}, nil, nil)
		}
	}
}

// P8.1, with both ends of how many chars and pairs there can be.
func TestLimits(t *testing.T) {
	fonts, s := few(), glyph.Style{Size: 10, Ligs: true, Kerns: true}
	chars := slices.Repeat([]string{"a", "a", "b", "x"}, 500)
	pairs := slices.Repeat([][2]string{{"s", "a"}, {"x", "b"}}, 50)
	checkBoxes(t, fonts, s, chars, pairs)
	checkBoxes(t, fonts, s, chars[:1999], pairs[:99])
	checkNoBoxes(t, "2001 chars", fonts, s, append(chars, "a"), nil)
	checkNoBoxes(t, "101 pairs", fonts, s, nil, append(pairs, [2]string{"a", "b"}))
	checkNoBoxes(t, "4000 chars, 200 pairs", fonts, s, slices.Repeat(chars, 2), slices.Repeat(pairs, 2))
}

// P8.1: all bytes in names of chars and of pairs, and all lengths.
func TestNamesOfChars(t *testing.T) {
	check := func(name string, can bool) {
		t.Helper()
		fonts, s := few(), glyph.Style{Size: 10}
		if can {
			checkBoxes(t, fonts, s, []string{"a", name}, [][2]string{{"x", name}, {name, "a"}})
			checkBoxes(t, fonts, s, []string{name, "x"}, [][2]string{{"x", name}})
			return
		}
		checkNoBoxes(t, "a last char", fonts, s, []string{"a", name}, nil)
		checkNoBoxes(t, "a first char", fonts, s, []string{name, "a"}, nil)
		checkNoBoxes(t, "translated", fonts, s, []string{name}, [][2]string{{name, "a"}})
		checkNoBoxes(t, "a pair's first", fonts, s, []string{"a"}, [][2]string{{"a", "b"}, {name, "a"}})
		checkNoBoxes(t, "a pair's second", fonts, s, nil, [][2]string{{"a", name}, {"a", "b"}})
	}
	for b := range 256 {
		one := string([]byte{byte(b)})
		for _, name := range []string{one, "a" + one, one + "a"} {
			check(name, b >= 33 && b <= 126)
		}
	}
	for n := range 30 {
		check(strings.Repeat("n", n), n >= 1 && n <= 10)
	}
}

// P8.3: the width is the sum of the glyphs' widths and the kerns, as layer 7 tells them.
func TestSumOfWidths(t *testing.T) {
	fonts := few()
	for _, chars := range rows(fewChars(), 3) {
		for _, s := range allStyles(len(fonts)) {
			boxes, _, _ := glyph.Boxes(fonts, s, chars, nil)
			sum, last := 0, -1
			for i, b := range boxes {
				if b.Kind != api.Glyph {
					continue
				}
				w, _ := font.Width(fonts[b.Font], b.Name, s.Size)
				sum += w
				if s.Kerns && last >= 0 && boxes[last].Font == b.Font {
					by, _ := font.Kerning(fonts[b.Font], boxes[last].Name, b.Name, s.Size)
					sum += by
				}
				last = i
			}
			if glyph.Width(boxes) != sum {
				t.Errorf("width of %q in %+v: %d, want %d", chars, s, glyph.Width(boxes), sum)
			}
		}
	}
}

// P8.3: without Ligs and Kerns rows stay apart.
func TestRowsBehindEachOther(t *testing.T) {
	fonts, pairs := few(), [][2]string{{"u", "a"}, {"t", "u"}}
	for _, s := range []glyph.Style{{Size: 10}, {Font: 2, Size: 3}} {
		for _, first := range rows(fewChars(), 2) {
			for _, second := range rows(fewChars(), 2) {
				a, missingA, _ := glyph.Boxes(fonts, s, first, pairs)
				b, missingB, _ := glyph.Boxes(fonts, s, second, pairs)
				both, missing, err := glyph.Boxes(fonts, s, slices.Concat(first, second), pairs)
				if err != api.OK || !same(both, slices.Concat(a, b)) || !slices.Equal(missing, slices.Concat(missingA, missingB)) {
					t.Errorf("%q and %q: %v, missing %q, error %d", first, second, both, missing, err)
				}
			}
		}
	}
}

// R5.
func TestBoxesLeaveArguments(t *testing.T) {
	fonts, s := few(), glyph.Style{Size: 10, Ligs: true, Kerns: true}
	chars, pairs := []string{"s", "a", "b", "x"}, [][2]string{{"s", "a"}, {"x", "y"}}
	first, missing, _ := glyph.Boxes(fonts, s, chars, pairs)
	if !reflect.DeepEqual(fonts, few()) || !slices.Equal(chars, []string{"s", "a", "b", "x"}) || pairs[0] != [2]string{"s", "a"} || pairs[1] != [2]string{"x", "y"} {
		t.Error("changed", fonts, chars, pairs)
	}
	clear(chars)
	clear(pairs)
	want, wantMissing := model(few(), s, []string{"s", "a", "b", "x"}, [][2]string{{"s", "a"}, {"x", "y"}})
	if !same(first, want) || !slices.Equal(missing, wantMissing) {
		t.Error("kept", first, missing)
	}
}
