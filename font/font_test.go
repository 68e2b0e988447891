package font_test

import (
	"math"
	"reflect"
	"slices"
	"strings"
	"testing"

	"frisket/api"
	"frisket/font"
)

// small makes a valid font with a bit of everything.
func small() font.Font {
	return font.Font{
		Name:   "Sm4",
		Space:  333,
		Glyphs: []font.Glyph{{"a", 501}, {"ab", 0}, {"b", 3000}, {"c", 7}},
		Ligs:   []font.Lig{{"a", "b", "ab"}, {"b", "a", "c"}},
		Kerns:  []font.Kern{{"a", "b", -500}, {"a", "c", 13}, {"b", "a", -1}, {"b", "b", 500}},
	}
}

// notValid makes fonts with just one thing wrong, among them some whose glyphs, ligatures and kerns could be found.
func notValid() []font.Font {
	var fonts []font.Font
	for _, spoil := range spoilers() {
		f := small()
		spoil(&f)
		fonts = append(fonts, f)
	}
	return fonts
}

var (
	wrongSizes = []int{0, -1, -1000, 1001, 1002, math.MinInt, math.MaxInt}
	goodSizes  = []int{1, 2, 7, 10, 12, 999, 1000}
)

func standard(t *testing.T, name string) font.Font {
	t.Helper()
	for _, f := range font.Standard() {
		if f.Name == name {
			return f
		}
	}
	t.Fatal("no standard font", name)
	return font.Font{}
}

// down divides by 1000, rounded down.
func down(n int) int {
	return (n - (n%1000+1000)%1000) / 1000
}

func checkNumber(t *testing.T, what string, got int, err api.Errno, want int, wantErr api.Errno) {
	t.Helper()
	if got != want || err != wantErr {
		t.Errorf("%s: %d, error %d; want %d, error %d", what, got, err, want, wantErr)
	}
}

// P7.1.
func TestFontsThatAreNotValid(t *testing.T) {
	for i, f := range append(notValid(), font.Font{}) {
		for _, size := range append(slices.Clone(goodSizes), wrongSizes...) {
			for _, glyph := range []string{"a", "b", "c", "x", ""} {
				n, err := font.Width(f, glyph, size)
				checkNumber(t, "Width", n, err, 0, api.ErrArg)
				n, err = font.Kerning(f, "a", glyph, size)
				checkNumber(t, "Kerning", n, err, 0, api.ErrArg)
			}
			n, err := font.Space(f, size)
			checkNumber(t, "Space", n, err, 0, api.ErrArg)
		}
		if s, is := font.Join(f, "a", "b"); s != "" || is {
			t.Errorf("Join of wrong font %d: %q, %v", i, s, is)
		}
		if s, err := font.Write(f); s != "" || err != api.ErrArg {
			t.Errorf("Write of wrong font %d: %q, error %d", i, s, err)
		}
	}
}

// P7.1: also ahead of ErrNone.
func TestSizesThatAreNone(t *testing.T) {
	for _, size := range wrongSizes {
		for _, f := range append(font.Standard(), small()) {
			for _, glyph := range []string{"a", "b", "bu", "", "no such"} {
				n, err := font.Width(f, glyph, size)
				checkNumber(t, "Width", n, err, 0, api.ErrArg)
				n, err = font.Kerning(f, glyph, "b", size)
				checkNumber(t, "Kerning", n, err, 0, api.ErrArg)
			}
			n, err := font.Space(f, size)
			checkNumber(t, "Space", n, err, 0, api.ErrArg)
		}
		for _, n := range []int{0, 1, -3000, 3000, -3001, 3001, math.MinInt, math.MaxInt} {
			got, err := font.Scale(n, size)
			checkNumber(t, "Scale", got, err, 0, api.ErrArg)
		}
	}
}

// P7.1, P7.2: the numbers of thousandths that Scale does not take.
func TestScaleOutOfRange(t *testing.T) {
	for _, n := range []int{-3001, 3001, -3002, 3002, 1000000, math.MinInt, math.MaxInt} {
		for _, size := range goodSizes {
			got, err := font.Scale(n, size)
			checkNumber(t, "Scale", got, err, 0, api.ErrRange)
		}
	}
}

// P7.2: rounded down, below 0 too.
func TestScale(t *testing.T) {
	for size := 1; size <= 1000; size++ {
		for n := -3000; n <= 3000; n++ {
			got, err := font.Scale(n, size)
			if err != api.OK || 1000*got > 10*size*n || 1000*(got+1) <= 10*size*n {
				t.Fatalf("Scale of %d at %d: %d, error %d", n, size, got, err)
			}
		}
	}
}

// P7.2.
func TestWidth(t *testing.T) {
	for _, f := range append(font.Standard(), small()) {
		for _, size := range goodSizes {
			for _, g := range f.Glyphs {
				n, err := font.Width(f, g.Name, size)
				checkNumber(t, f.Name+" "+g.Name, n, err, down(10*size*g.Width), api.OK)
			}
			for _, glyph := range []string{"", " ", "\n", "no", "aa", "A ", "\x7f", "~~", strings.Repeat("a", 11)} {
				n, err := font.Width(f, glyph, size)
				checkNumber(t, f.Name+" "+glyph, n, err, 0, api.ErrNone)
			}
		}
	}
	empty := font.Font{Name: "E"}
	n, err := font.Width(empty, "a", 10)
	checkNumber(t, "no glyphs", n, err, 0, api.ErrNone)
}

// P7.2: the examples of the chapter.
func TestExamples(t *testing.T) {
	n, err := font.Width(standard(t, "R"), "m", 10)
	checkNumber(t, "m", n, err, 75, api.OK)
	n, err = font.Kerning(standard(t, "R"), "A", "V", 12)
	checkNumber(t, "A V", n, err, -10, api.OK)
}

// P7.2.
func TestSpace(t *testing.T) {
	for _, f := range append(font.Standard(), small(), font.Font{Name: "a"}, font.Font{Name: "z", Space: 3000}) {
		for _, size := range goodSizes {
			n, err := font.Space(f, size)
			checkNumber(t, "space of "+f.Name, n, err, down(10*size*f.Space), api.OK)
		}
	}
}

// P7.2.
func TestJoin(t *testing.T) {
	for _, f := range append(font.Standard(), small()) {
		names := []string{"", "no such"}
		for _, g := range f.Glyphs {
			names = append(names, g.Name)
		}
		checkAllPairs(t, f, names)
	}
}

func checkAllPairs(t *testing.T, f font.Font, names []string) {
	t.Helper()
	ligs, kerns := map[[2]string]string{}, map[[2]string]int{}
	for _, l := range f.Ligs {
		ligs[[2]string{l.A, l.B}] = l.Is
	}
	for _, k := range f.Kerns {
		kerns[[2]string{k.A, k.B}] = k.By
	}
	for _, a := range names {
		for _, b := range names {
			want, wantIs := ligs[[2]string{a, b}]
			if s, is := font.Join(f, a, b); s != want || is != wantIs {
				t.Errorf("Join of %s %s in %s: %q, %v", a, b, f.Name, s, is)
			}
			n, err := font.Kerning(f, a, b, 13)
			checkNumber(t, "kern of "+a+" "+b+" in "+f.Name, n, err, down(130*kerns[[2]string{a, b}]), api.OK)
		}
	}
}

// P7.2: many ligatures and kerns, each found.
func TestManyPairs(t *testing.T) {
	f := full()
	names := []string{"", "no such"}
	for _, g := range f.Glyphs[:60] {
		names = append(names, g.Name)
	}
	checkAllPairs(t, f, names)
}

// P7.2.
func TestKerningAtSizes(t *testing.T) {
	f := small()
	for size := 1; size <= 1000; size++ {
		for _, k := range f.Kerns {
			n, err := font.Kerning(f, k.A, k.B, size)
			checkNumber(t, k.A+" "+k.B, n, err, down(10*size*k.By), api.OK)
		}
	}
}

// P7.2: of any font, by looking.
func TestHas(t *testing.T) {
	odd := font.Font{Glyphs: []font.Glyph{{"z", 1}, {"", -1}, {"a", 1}, {"\n", 1}, {strings.Repeat("x", 20), 1}}}
	for _, f := range append(font.Standard(), small(), odd) {
		for _, g := range f.Glyphs {
			if !font.Has(f, g.Name) {
				t.Errorf("%q has not %q", f.Name, g.Name)
			}
		}
		for _, glyph := range []string{"no such", "\x00", "yy", "mm", "x"} {
			if font.Has(f, glyph) != slices.ContainsFunc(f.Glyphs, func(g font.Glyph) bool { return g.Name == glyph }) {
				t.Errorf("%q and %q", f.Name, glyph)
			}
		}
	}
	if font.Has(font.Font{}, "") || font.Has(small(), "") || font.Has(small(), "B") {
		t.Error("a glyph that is not there")
	}
}

// P7.2.
func TestMono(t *testing.T) {
	for _, c := range []struct {
		f    font.Font
		want bool
	}{
		{font.Font{}, true}, {font.Font{Name: "X", Space: 5}, true}, {font.Font{Space: 3001}, true},
		{font.Font{Name: "X", Space: 5, Glyphs: []font.Glyph{{"a", 5}}}, true},
		{font.Font{Name: "X", Space: 5, Glyphs: []font.Glyph{{"a", 4}}}, false},
		{font.Font{Name: "X", Space: 5, Glyphs: []font.Glyph{{"a", 5}, {"b", 5}}}, true},
		{font.Font{Name: "X", Space: 5, Glyphs: []font.Glyph{{"a", 6}, {"b", 6}}}, false},
		{font.Font{Name: "X", Space: 5, Glyphs: []font.Glyph{{"a", 5}, {"b", 6}}}, false},
		{font.Font{Name: "X", Space: 5, Glyphs: []font.Glyph{{"a", 6}, {"b", 5}}}, false},
		{small(), false},
	} {
		if font.Mono(c.f) != c.want {
			t.Errorf("Mono of %+v", c.f)
		}
	}
	for _, f := range font.Standard() {
		if font.Mono(f) != (f.Name == "M") {
			t.Errorf("Mono of %s", f.Name)
		}
	}
}

// P7.2.
func TestSame(t *testing.T) {
	for _, f := range append(font.Standard(), small(), font.Font{}, font.Font{Space: -1}) {
		if !font.Same(f, copied(f)) {
			t.Errorf("%s and its copy", f.Name)
		}
	}
	empty := font.Font{Glyphs: []font.Glyph{}, Ligs: []font.Lig{}, Kerns: []font.Kern{}}
	if !font.Same(empty, font.Font{}) || !font.Same(font.Font{}, empty) {
		t.Error("empty lists and nil ones")
	}
	for i, change := range []func(f *font.Font){
		func(f *font.Font) { f.Name = "Sm5" },
		func(f *font.Font) { f.Special = true },
		func(f *font.Font) { f.Space++ },
		func(f *font.Font) { f.Glyphs[3].Name = "d" },
		func(f *font.Font) { f.Glyphs[3].Width++ },
		func(f *font.Font) { f.Glyphs = f.Glyphs[:3] },
		func(f *font.Font) { f.Ligs[0].A = "b" },
		func(f *font.Font) { f.Ligs[1].B = "b" },
		func(f *font.Font) { f.Ligs[1].Is = "b" },
		func(f *font.Font) { f.Ligs = f.Ligs[:1] },
		func(f *font.Font) { f.Kerns[3].A = "c" },
		func(f *font.Font) { f.Kerns[3].B = "c" },
		func(f *font.Font) { f.Kerns[3].By-- },
		func(f *font.Font) { f.Kerns = f.Kerns[1:] },
		func(f *font.Font) { f.Kerns = nil },
	} {
		f := small()
		change(&f)
		if font.Same(f, small()) || font.Same(small(), f) {
			t.Errorf("change %d", i)
		}
	}
}

func copied(f font.Font) font.Font {
	f.Glyphs, f.Ligs, f.Kerns = slices.Clone(f.Glyphs), slices.Clone(f.Ligs), slices.Clone(f.Kerns)
	return f
}

// P7.3.
func TestWidthsNeverShrink(t *testing.T) {
	for _, f := range font.Standard() {
		for _, g := range f.Glyphs {
			ahead := 0
			for size := 1; size <= 1000; size += 3 {
				n, err := font.Width(f, g.Name, size)
				if n < ahead || err != api.OK {
					t.Fatalf("%s of %s at %d: %d, error %d; ahead of it %d", g.Name, f.Name, size, n, err, ahead)
				}
				ahead = n
			}
		}
	}
}

// P7.2: R5 of the document: arguments are not changed.
func TestArgumentsStay(t *testing.T) {
	f := standard(t, "R")
	before := copied(f)
	font.Valid(f)
	font.Has(f, "a")
	font.Width(f, "a", 10)
	font.Space(f, 10)
	font.Join(f, "f", "i")
	font.Kerning(f, "A", "V", 10)
	font.Write(f)
	font.Same(f, f)
	font.Mono(f)
	if !reflect.DeepEqual(f, before) {
		t.Errorf("changed: %+v", f)
	}
}
