package glyph_test

import (
	"math"
	"reflect"
	"slices"
	"strconv"
	"testing"

	"frisket/api"
	"frisket/font"
	"frisket/glyph"
)

// eachKind makes boxes of all kinds, as the fonts few have them at 10.
func eachKind() []api.Box {
	return []api.Box{
		{Kind: 0, Width: 50, Size: 10, Name: "a", Colour: "red"},
		{Kind: 0, Width: 60, Size: 10, Name: "ab"},
		{Kind: 1, Width: 60, Font: 1, Size: 10},
		{Kind: 1, Width: 25, Size: 10, Name: "~"},
		{Kind: 2, Width: -7},
		{Kind: 3, Width: 1000},
		{Kind: 4, Width: 30, Name: "l", Colour: "blue", N: []int{30, 2}},
		{Kind: 5},
		{Kind: 6, Width: 11},
	}
}

// P8.2: each kind alone, then of boxes that are not valid, too.
func TestWidth(t *testing.T) {
	for kind := -3; kind <= 10; kind++ {
		counts := map[int]bool{0: true, 1: true, 2: true, 4: true, 6: true}[kind]
		for _, width := range []int{0, 1, -1, 1000000, -1000000, math.MaxInt, math.MinInt} {
			want := 0
			if counts {
				want = width
			}
			if got := glyph.Width([]api.Box{{Kind: kind, Width: width, Name: "l"}}); got != want {
				t.Errorf("width of kind %d: %d, want %d", kind, got, want)
			}
		}
	}
	if n := glyph.Width(eachKind()); n != 50+60+60+25-7+30+11 {
		t.Error("width of all kinds", n)
	}
	if glyph.Width(nil) != 0 || glyph.Width([]api.Box{}) != 0 {
		t.Error("width of none")
	}
}

// R6: the sum is right where its parts go beyond 64 bits on the way.
func TestGreatWidths(t *testing.T) {
	great := api.Box{Kind: api.Right, Width: math.MaxInt}
	small := api.Box{Kind: api.Fixed, Width: -math.MaxInt}
	if n := glyph.Width([]api.Box{great, great, great, small, {Width: -5}, small}); n != math.MaxInt-5 {
		t.Error("great widths", n)
	}
}

// modelSplit cuts at the last space, then the rest.
func modelSplit(l []api.Box) [][]api.Box {
	for i := len(l) - 1; i >= 0; i-- {
		if l[i].Kind == 1 && l[i].Name != "~" {
			return append(modelSplit(l[:i]), l[i+1:])
		}
	}
	return [][]api.Box{l}
}

// P8.2, P8.3: all rows of up to four boxes of all kinds.
func TestSplit(t *testing.T) {
	for _, row := range rows(eachKind(), 4) {
		got, want := glyph.Split(row), modelSplit(row)
		if len(got) != len(want) {
			t.Fatalf("words of %v: %v", row, got)
		}
		text := ""
		for i := range want {
			if !same(got[i], want[i]) {
				t.Fatalf("words of %v: %v", row, got)
			}
			if i > 0 {
				text += " "
			}
			text += glyph.Text(got[i])
		}
		if text != glyph.Text(row) {
			t.Fatalf("text of %v: %q", row, text)
		}
	}
}

// P8.2: n spaces make n + 1 words.
func TestEmptyWords(t *testing.T) {
	for n := range 20 {
		spaces := slices.Repeat([]api.Box{{Kind: api.Blank}}, n)
		words := glyph.Split(spaces)
		if len(words) != n+1 {
			t.Errorf("%d spaces: %d words", n, len(words))
		}
		for _, w := range words {
			if len(w) != 0 {
				t.Errorf("%d spaces: the word %v", n, w)
			}
		}
	}
	if words := glyph.Split(nil); len(words) != 1 || len(words[0]) != 0 {
		t.Error("words of none", words)
	}
}

// P8.2: boxes that are not valid are cut, too; any other Name than ~ lets a word end.
func TestSplitOfAnyBoxes(t *testing.T) {
	odd := []api.Box{{Kind: 7, Name: "~", Width: math.MinInt}, {Kind: 1, Name: "x"}, {Kind: -1}, {Kind: 1, Name: "~~"}, {Kind: 1, Name: "~", N: []int{1}, Font: -1}}
	want := [][]api.Box{odd[:1], odd[2:3], odd[4:]}
	if words := glyph.Split(odd); !reflect.DeepEqual(words, want) {
		t.Error(words)
	}
}

// R5: neither words nor shifted boxes share anything.
func TestRowsShareNothing(t *testing.T) {
	row := append(eachKind(), eachKind()...)
	words := glyph.Split(row)
	shifted, err := glyph.Shift(row, 10, few())
	if err != api.OK || !same(shifted, row) {
		t.Error("shifted to their size", shifted, err)
	}
	row[6].N[1], row[0].Name = 99, "changed"
	if words[0][0].Name != "a" || words[1][3].N[1] != 2 || shifted[0].Name != "a" || shifted[6].N[1] != 2 {
		t.Error("words changed", words, shifted)
	}
	for _, w := range words {
		_ = append(w, api.Box{Kind: 9})
	}
	if words[1][0].Kind != 1 || words[2][0].Kind != 1 {
		t.Error("words share memory", words)
	}
	row = eachKind()
	if _, err := glyph.Shift(row, 20, few()); err != api.OK || !same(row, eachKind()) {
		t.Error("arguments changed", row, err)
	}
}

// P8.2: all sizes.
func TestShift(t *testing.T) {
	fonts := few()
	for size := 1; size <= 1000; size++ {
		want := eachKind()
		for i, width := range []int{501, 600, 601, 250} {
			want[i].Width, want[i].Size = 10*size*width/1000, size
		}
		got, err := glyph.Shift(eachKind(), size, fonts)
		if err != api.OK || !same(got, want) {
			t.Fatalf("at %d: %v, error %d", size, got, err)
		}
	}
}

// P8.2: Widths are by the fonts, whatever they were; kerns stay.
func TestShiftOfBoxes(t *testing.T) {
	fonts := few()
	for _, chars := range rows(fewChars(), 3) {
		s := glyph.Style{Size: 10, Ligs: true, Kerns: true}
		small, _, _ := glyph.Boxes(fonts, s, chars, nil)
		s.Size = 33
		want, _, _ := glyph.Boxes(fonts, s, chars, nil)
		for i, b := range small {
			if b.Kind == api.Right {
				want[i] = b
			} else {
				small[i].Width = math.MaxInt
			}
		}
		got, err := glyph.Shift(small, 33, fonts)
		if err != api.OK || !same(got, want) {
			t.Errorf("%q: %v, error %d; want %v", chars, got, err, want)
		}
	}
}

func checkNoShift(t *testing.T, what string, l []api.Box, size int, fonts []font.Font) {
	t.Helper()
	if boxes, err := glyph.Shift(l, size, fonts); err != api.ErrArg || boxes != nil {
		t.Errorf("%s: %v, error %d; want error %d", what, boxes, err, api.ErrArg)
	}
}

// P8.1, P8.2.
func TestWrongShifts(t *testing.T) {
	for _, size := range []int{0, -1, -10, 1001, math.MinInt, math.MaxInt} {
		checkNoShift(t, "size "+strconv.Itoa(size), eachKind(), size, few())
		checkNoShift(t, "size "+strconv.Itoa(size)+" of none", nil, size, nil)
	}
	for _, at := range []int{-1, 4, 5, math.MinInt, math.MaxInt} {
		for _, kind := range []int{api.Glyph, api.Blank} {
			row := append(eachKind(), api.Box{Kind: kind, Font: at, Size: 10, Name: "a"})
			checkNoShift(t, "font "+strconv.Itoa(at), row, 10, few())
		}
	}
	// The glyph is in other fonts, but not in its own.
	for _, b := range []api.Box{{Font: 1, Name: "b"}, {Font: 2, Name: "z"}, {Font: 0, Name: "s"}, {Name: ""}, {Name: "no such"}} {
		checkNoShift(t, "glyph "+b.Name, append([]api.Box{b}, eachKind()...), 10, few())
	}
	checkNoShift(t, "no fonts", []api.Box{{Kind: api.Blank, Size: 10}}, 10, nil)
}

// P8.2: what has no font does not want one.
func TestShiftWithoutFonts(t *testing.T) {
	row := eachKind()[4:]
	row = append(row, api.Box{Kind: 7, Font: 9, Width: 3}, api.Box{Kind: -1, Size: -2})
	for _, fonts := range [][]font.Font{nil, few()} {
		got, err := glyph.Shift(row, 500, fonts)
		if err != api.OK || !same(got, row) {
			t.Error(got, err)
		}
		if got, err = glyph.Shift(nil, 1, fonts); err != api.OK || len(got) != 0 {
			t.Error("none", got, err)
		}
	}
}

// P8.2.
func TestText(t *testing.T) {
	for b := range 256 {
		one := string([]byte{byte(b)})
		if s := glyph.Text([]api.Box{{Name: one}}); s != one {
			t.Errorf("text of %q: %q", one, s)
		}
	}
	for kind := -3; kind <= 10; kind++ {
		want := map[int]string{0: `\[name]`, 1: " ", 6: " "}[kind]
		if s := glyph.Text([]api.Box{{Kind: kind, Name: "name"}}); s != want {
			t.Errorf("text of kind %d: %q, want %q", kind, s, want)
		}
	}
	if s := glyph.Text(eachKind()); s != `a\[ab]   ` {
		t.Errorf("text of all kinds: %q", s)
	}
	if s := glyph.Text([]api.Box{{Name: `\`}, {Name: "]"}, {Name: "a]"}, {Name: ""}, {Name: "\xc3\xa9"}}); s != `\]\[a]]\[]`+"\\[\xc3\xa9]" {
		t.Errorf("text of odd names: %q", s)
	}
	if glyph.Text(nil) != "" {
		t.Error("text of none")
	}
}
