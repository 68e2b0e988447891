package font_test

import (
	"reflect"
	"regexp"
	"strconv"
	"strings"
	"testing"

	"frisket/api"
	"frisket/font"
)

const smallText = `font Sm4
space 333
g a 501
g ab 0
g b 3000
g c 7
l a b ab
l b a c
k a b -500
k a c 13
k b a -1
k b b 500
`

func checkWrite(t *testing.T, f font.Font, want string) {
	t.Helper()
	if got, err := font.Write(f); got != want || err != api.OK {
		t.Errorf("Write: %q, error %d; want %q", got, err, want)
	}
	if got, err := font.Parse(want); !font.Same(got, f) || err != api.OK {
		t.Errorf("Parse of %q: %+v, error %d", want, got, err)
	}
}

func checkNoText(t *testing.T, s string) {
	t.Helper()
	if got, err := font.Parse(s); !reflect.DeepEqual(got, font.Font{}) || err != api.ErrForm {
		t.Errorf("Parse of %.200q: %+v, error %d", s, got, err)
	}
}

// P7.2, with the term of a description.
func TestWrite(t *testing.T) {
	checkWrite(t, small(), smallText)
	checkWrite(t, font.Font{Name: "X"}, "font X\nspace 0\n")
	checkWrite(t, font.Font{Name: "special", Special: true, Space: 3000}, "font special special\nspace 3000\n")
	checkWrite(t, font.Font{Name: "font", Space: 1, Glyphs: []font.Glyph{{"g", 10}, {"space", 0}}}, "font font\nspace 1\ng g 10\ng space 0\n")
	checkWrite(t, font.Font{Name: "k", Glyphs: []font.Glyph{{"-0", 1}}, Kerns: []font.Kern{{"-0", "-0", -1}}}, "font k\nspace 0\ng -0 1\nk -0 -0 -1\n")
}

// P7.3: also of the standard fonts and of the greatest font.
func TestParseOfWrite(t *testing.T) {
	for _, f := range append(font.Standard(), small(), full(), font.Font{Name: "a"}) {
		s, err := font.Write(f)
		got, err2 := font.Parse(s)
		if err != api.OK || err2 != api.OK || !font.Same(got, f) {
			t.Errorf("%s: errors %d, %d", f.Name, err, err2)
		}
		again, err := font.Write(got)
		if again != s || err != api.OK {
			t.Errorf("%s is written as %q, then as %q, error %d", f.Name, s, again, err)
		}
	}
}

// P7.3: all fonts of a few glyphs, with and without special, ligatures and kerns.
func TestParseOfWriteOfMany(t *testing.T) {
	names := []string{"!", "-", "0", "a", "g", "~~~~~~~~~~"}
	for some := range 1 << len(names) {
		f := font.Font{Name: "X" + strconv.Itoa(some), Special: some%3 == 0, Space: some * 40}
		for i, name := range names {
			if some>>i&1 == 1 {
				f.Glyphs = append(f.Glyphs, font.Glyph{Name: name, Width: some + i*500})
			}
		}
		for i, g := range f.Glyphs {
			f.Ligs = append(f.Ligs, font.Lig{A: g.Name, B: f.Glyphs[0].Name, Is: g.Name})
			f.Kerns = append(f.Kerns, font.Kern{A: g.Name, B: g.Name, By: 5*i - 12})
		}
		s, err := font.Write(f)
		if err != api.OK || strings.Count(s, "\n") != 2+3*len(f.Glyphs) {
			t.Fatalf("%+v: %q, error %d", f, s, err)
		}
		checkWrite(t, f, s)
	}
}

// P7.1, P7.2.
func TestTextsThatAreNone(t *testing.T) {
	for _, s := range []string{
		"", "\n", " ", "font", "font X", "font X\n", "font\nspace 1\n", "font \nspace 1\n", "X\nspace 1\n", "space 1\n", "space 1\nfont X\n",
		"font X\nspace 1", "font X\nspace\n", "font X\nspace \n", "font X\nspace 01\n", "font X\nspace +1\n", "font X\nspace -0\n", "font X\nspace -1\n", "font X\nspace 3001\n", "font X\nspace 1.5\n", "font X\nspace 0x1\n", "font X\nspace 1_0\n", "font X\nspace a\n", "font X\nspace 99999999999999999999\n",
		"font 1\nspace 1\n", "font abcdefghijk\nspace 1\n", "font X Special\nspace 1\n", "font X spec\nspace 1\n", "font X \nspace 1\n", "font X special \nspace 1\n", "font X special special\nspace 1\n", "font  X\nspace 1\n", "font X\tspecial\nspace 1\n", "Font X\nspace 1\n", "font X\nspace 1 \n", "font X\nspace  1\n", " font X\nspace 1\n", "font X\r\nspace 1\r\n", "font X\nfont X\nspace 1\n", "font X\nspace 1\nspace 1\n", "font X\n\nspace 1\n", "font X\nspace 1\n\n", "\nfont X\nspace 1\n",
		"font X\nspace 1\ng\n", "font X\nspace 1\ng a\n", "font X\nspace 1\ng a 1", "font X\nspace 1\ng a 1 \n", "font X\nspace 1\ng a 1 1\n", "font X\nspace 1\ng  1\n", "font X\nspace 1\ng a -1\n", "font X\nspace 1\ng a x\n", "font X\nspace 1\ng a 3001\n", "font X\nspace 1\ng a 007\n", "font X\nspace 1\nG a 1\n", "font X\nspace 1\nx\n", "font X\nspace 1\nh a 1\n", "font X\nspace 1\ng b 1\ng a 1\n", "font X\nspace 1\ng a 1\ng a 1\n", "font X\ng a 1\nspace 1\n", "g a 1\nfont X\nspace 1\n", "font X\nspace 1\ng abcdefghijk 1\n",
		"font X\nspace 1\ng a 1\nl a a\n", "font X\nspace 1\ng a 1\nl a a b\n", "font X\nspace 1\ng a 1\nl a b a\n", "font X\nspace 1\ng a 1\nl b a a\n", "font X\nspace 1\nl a a a\ng a 1\n", "font X\nspace 1\ng a 1\nl a a a\nl a a a\n", "font X\nspace 1\ng a 1\nl a a a a\n",
		"font X\nspace 1\ng a 1\nk a a\n", "font X\nspace 1\ng a 1\nk a a 0\n", "font X\nspace 1\ng a 1\nk a a 501\n", "font X\nspace 1\ng a 1\nk a a -501\n", "font X\nspace 1\ng a 1\nk a a x\n", "font X\nspace 1\ng a 1\nk a a +1\n", "font X\nspace 1\ng a 1\nk a a -01\n", "font X\nspace 1\ng a 1\nk a a 1\nk a a 1\n", "font X\nspace 1\ng a 1\nk a a 1\nl a a a\n", "font X\nspace 1\ng a 1\nk a b 1\n", "font X\nspace 1\ng a 1\nk b a 1\n", "font X\nspace 1\nk a a 1\ng a 1\n", "font X\nspace 1\ng a 1\nk a a --1\n",
		"font X\nspace 1\n\x00", "font X\nspace 1\n# comment\n", "font X\nspace 1\ng \x80 1\n",
	} {
		checkNoText(t, s)
	}
}

// P7.2: no list beyond its limit, and no text of any length.
func TestTextsThatAreTooLong(t *testing.T) {
	s, _ := font.Write(full())
	ahead, kerns, _ := strings.Cut(s, "k ")
	glyphs, ligs, _ := strings.Cut(ahead, "l ")
	kerns, ligs = "k "+kerns, "l "+ligs
	if _, err := font.Parse(glyphs + ligs + kerns); err != api.OK {
		t.Fatal("full", err)
	}
	for _, wrong := range []string{glyphs + "g z 1\n" + ligs + kerns, glyphs + ligs + "l glyph!~200 glyph!~200 glyph!~200\n" + kerns, glyphs + ligs + kerns + "k glyph!~200 glyph!~200 1\n", s + s, strings.Repeat(s, 10), strings.Repeat("g a 1\n", 100000), strings.Repeat(" ", 100000), strings.Repeat("\n", 100000), "font X\nspace " + strings.Repeat("0", 100000) + "\n"} {
		checkNoText(t, wrong)
	}
}

var (
	shape    = regexp.MustCompile(`^font [^ \n]+( special)?\nspace [^ \n]+\n(g [^ \n]+ [^ \n]+\n)*(l [^ \n]+ [^ \n]+ [^ \n]+\n)*(k [^ \n]+ [^ \n]+ [^ \n]+\n)*$`)
	decimals = regexp.MustCompile(`^(0|-?[1-9][0-9]{0,8})$`)
)

// model reads a description by its shape as a whole.
func model(s string) (font.Font, bool) {
	var f font.Font
	good := shape.MatchString(s)
	if !good {
		return font.Font{}, false
	}
	number := func(word string) int {
		good = good && decimals.MatchString(word)
		n, _ := strconv.Atoi(word)
		return n
	}
	for l := range strings.SplitSeq(s[:len(s)-1], "\n") {
		words := strings.Split(l, " ")
		switch words[0] {
		case "font":
			f.Name, f.Special = words[1], len(words) > 2
		case "space":
			f.Space = number(words[1])
		case "g":
			f.Glyphs = append(f.Glyphs, font.Glyph{Name: words[1], Width: number(words[2])})
		case "l":
			f.Ligs = append(f.Ligs, font.Lig{A: words[1], B: words[2], Is: words[3]})
		case "k":
			f.Kerns = append(f.Kerns, font.Kern{A: words[1], B: words[2], By: number(words[3])})
		}
	}
	if !good || !font.Valid(f) {
		return font.Font{}, false
	}
	return f, true
}

func checkByModel(t *testing.T, s string) bool {
	t.Helper()
	want, is := model(s)
	if !is {
		checkNoText(t, s)
		return false
	}
	checkWrite(t, want, s)
	return true
}

// P7.2: each text that is one byte away from a description, by the model.
func TestTextsNearby(t *testing.T) {
	good := 0
	for _, s := range []string{smallText, strings.Replace(smallText, "Sm4", "Sm4 special", 1)} {
		for at := range len(s) + 1 {
			tries := []string{s[:at]}
			for _, b := range []byte("\n\t -+01579azglkS!~\x7f\x80\xff\x00\x1f") {
				one := string([]byte{b})
				tries = append(tries, s[:at]+one+s[at:])
				if at < len(s) {
					tries = append(tries, s[:at]+one+s[at+1:])
				}
			}
			if at < len(s) {
				tries = append(tries, s[:at]+s[at+1:])
			}
			for _, try := range tries {
				if checkByModel(t, try) {
					good++
				}
			}
		}
	}
	if good < 100 {
		t.Error("the model takes only", good)
	}
}

// P7.2: each order of lines, and each line twice or left out, by the model.
func TestLinesElsewhere(t *testing.T) {
	lines := strings.SplitAfter(smallText, "\n")
	lines = lines[:len(lines)-1]
	for i := range lines {
		for k := range lines {
			swapped := append([]string{}, lines...)
			swapped[i], swapped[k] = swapped[k], swapped[i]
			checkByModel(t, strings.Join(swapped, ""))
			swapped[i] = swapped[k]
			checkByModel(t, strings.Join(swapped, ""))
			swapped[k] = ""
			checkByModel(t, strings.Join(swapped, ""))
		}
	}
}
