package request_test

import (
	"math"
	"reflect"
	"slices"
	"strings"
	"testing"

	"frisket/api"
	"frisket/request"
)

// every makes all texts of some letters, up to a length.
func every(letters string, length int) []string {
	texts := []string{""}
	for start := 0; length > 0; length-- {
		end := len(texts)
		for _, s := range texts[start:end] {
			for i := range len(letters) {
				texts = append(texts, s+letters[i:i+1])
			}
		}
		start = end
	}
	return texts
}

func repeated(s string, n int) string { return strings.Repeat(s, n) }

// sameRequest takes no list of arguments and an empty one for the same.
func sameRequest(a, b request.Request) bool {
	return a.Name == b.Name && a.Rest == b.Rest && a.Quiet == b.Quiet && slices.Equal(a.Args, b.Args)
}

func checkSplit(t *testing.T, line string, want request.Request) {
	t.Helper()
	if got, is, err := request.Split(line, '.', '\''); !sameRequest(got, want) || !is || err != api.OK {
		t.Errorf("%.100q: %+v, %v, error %d; want %+v", line, got, is, err, want)
	}
}

func checkNoRequest(t *testing.T, line string, control, quiet byte, want api.Errno) {
	t.Helper()
	if got, is, err := request.Split(line, control, quiet); !reflect.DeepEqual(got, request.Request{}) || is || err != want {
		t.Errorf("%.100q with %q and %q: %+v, %v, error %d; want error %d", line, control, quiet, got, is, err, want)
	}
}

// P6.1.
func TestWrongLines(t *testing.T) {
	for _, s := range []string{"\n", ".x\n", ".\nx", "\n.x", "text\n", "a\nb", "text\\\n", ".x \"a\n", "'x\n", repeated("t", 2001), "." + repeated("t", 2000), repeated(".", 2001), repeated(" ", 2001), ".x " + repeated("\n", 2000), repeated("t", 100000)} {
		checkNoRequest(t, s, '.', '\'', api.ErrArg)
		checkNoRequest(t, s, '.', '.', api.ErrArg)
	}
}

// P6.1: any two bytes that differ are control bytes, but for letters, digits, blanks and \.
func TestControlBytes(t *testing.T) {
	wrong := "abcdefghijklmnopqrstuvwxyzABCDEFGHIJKLMNOPQRSTUVWXYZ0123456789 \t\\"
	for control := range 256 {
		for quiet := range 256 {
			c, q := byte(control), byte(quiet)
			if c == q || strings.IndexByte(wrong, c) >= 0 || strings.IndexByte(wrong, q) >= 0 {
				for _, s := range []string{"", "text", ".x", string([]byte{c, 'x'}), string([]byte{q, 'x'})} {
					checkNoRequest(t, s, c, q, api.ErrArg)
				}
				continue
			}
			checkControls(t, c, q)
		}
	}
}

func checkControls(t *testing.T, control, quiet byte) {
	t.Helper()
	for _, first := range []byte{control, quiet} {
		s := string([]byte{first}) + " xx a b"
		if first == '\n' {
			checkNoRequest(t, s, control, quiet, api.ErrArg)
			continue
		}
		want := request.Request{Name: "xx", Args: []string{"a", "b"}, Rest: "a b", Quiet: first == quiet}
		if got, is, err := request.Split(s, control, quiet); !sameRequest(got, want) || !is || err != api.OK {
			t.Errorf("%q with %q and %q: %+v, %v, error %d", s, control, quiet, got, is, err)
		}
	}
	for _, s := range []string{"", "text", " " + string([]byte{control}) + "x", "\t" + string([]byte{quiet})} {
		if !strings.Contains(s, "\n") {
			checkNoRequest(t, s, control, quiet, api.OK)
		}
	}
}

// P6.2.
func TestTextLines(t *testing.T) {
	for _, s := range []string{"", "text", " .x", "\t'x", `\.x`, `\&'x`, `"x"`, ",x", "\x00", "\xff", "x.", repeated("t", 2000), repeated(" ", 2000)} {
		checkNoRequest(t, s, '.', '\'', api.OK)
	}
	checkNoRequest(t, ".x", ',', ';', api.OK)
	checkNoRequest(t, "'x", ',', ';', api.OK)
}

func TestControlLines(t *testing.T) {
	for line, want := range map[string]request.Request{
		`.xx a "b c" d"e`: {Name: "xx", Args: []string{"a", "b c", `d"e`}, Rest: `a "b c" d"e`},
		"'xx a":           {Name: "xx", Args: []string{"a"}, Rest: "a", Quiet: true},
		".x":              {Name: "x"},
		"'x":              {Name: "x", Quiet: true},
		".":               {},
		"'":               {Quiet: true},
		". \t ":           {},
		".. a":            {Name: ".", Args: []string{"a"}, Rest: "a"},
		"''":              {Name: "'", Quiet: true},
		".'x":             {Name: "'x"},
		"'.":              {Name: ".", Quiet: true},
		". \t x a":        {Name: "x", Args: []string{"a"}, Rest: "a"},
		".\txx\ta":        {Name: "xx", Args: []string{"a"}, Rest: "a"},
		".x ":             {Name: "x"},
		".x\t":            {Name: "x"},
		".x  ":            {Name: "x", Rest: " "},
		".x  a ":          {Name: "x", Args: []string{"a"}, Rest: " a "},
		".x \ta":          {Name: "x", Args: []string{"a"}, Rest: "\ta"},
		".x\t a\tb":       {Name: "x", Args: []string{"a", "b"}, Rest: " a\tb"},
		`.x"a b"`:         {Name: `x"a`, Args: []string{`b"`}, Rest: `b"`},
		`."x y"`:          {Name: `"x`, Args: []string{`y"`}, Rest: `y"`},
		`.x ""`:           {Name: "x", Args: []string{""}, Rest: `""`},
		`.\" a b`:         {Name: `\"`, Args: []string{"a", "b"}, Rest: "a b"},
		`.a\ b c`:         {Name: `a\`, Args: []string{"b", "c"}, Rest: "b c"},
		`.a\`:             {Name: `a\`},
		`.x a\`:           {Name: "x", Args: []string{`a\`}, Rest: `a\`},
		`.x a\ b`:         {Name: "x", Args: []string{`a\ b`}, Rest: `a\ b`},
		`.x \ b`:          {Name: "x", Args: []string{`\ b`}, Rest: `\ b`},
		".x\r\x00 \xff":   {Name: "x\r\x00", Args: []string{"\xff"}, Rest: "\xff"},
		".é è":            {Name: "é", Args: []string{"è"}, Rest: "è"},
	} {
		checkSplit(t, line, want)
	}
}

func TestControlLinesAtTheLimit(t *testing.T) {
	checkSplit(t, "."+repeated("n", 1999), request.Request{Name: repeated("n", 1999)})
	checkSplit(t, "."+repeated(" ", 1999), request.Request{})
	checkSplit(t, ".x "+repeated(" ", 1997), request.Request{Name: "x", Rest: repeated(" ", 1997)})
	checkSplit(t, ".x"+repeated(" a", 999), request.Request{Name: "x", Args: slices.Repeat([]string{"a"}, 999), Rest: repeated("a ", 998) + "a"})
}

func TestPartsOfAllShortLines(t *testing.T) {
	for _, s := range every("x .'\t\"\\", 5) {
		got, is, err := request.Split(s, '.', '\'')
		if err != api.OK || is != (s != "" && strings.Contains(".'", s[:1])) {
			t.Fatalf("%q: %v, error %d", s, is, err)
		}
		if !is {
			continue
		}
		behind := strings.TrimLeft(s[1:], " \t")
		name := strings.FieldsFunc(behind+" ", func(r rune) bool { return r == ' ' || r == '\t' })
		if len(name) == 0 {
			name = []string{""}
		}
		rest := behind[len(name[0]):]
		rest = rest[min(1, len(rest)):]
		if want := (request.Request{Name: name[0], Args: request.Words(rest), Rest: rest, Quiet: s[0] == '\''}); !sameRequest(got, want) {
			t.Fatalf("%q: %+v, want %+v", s, got, want)
		}
	}
}

// P6.3.
func TestBraces(t *testing.T) {
	for _, k := range []struct {
		line         string
		from, to, at int
	}{
		{"", 0, 0, -1}, {"", 3, 3, -1}, {"text", 0, 0, -1}, {"text", 2, 2, -1}, {"{}", 1, 1, -1},
		{`\{`, 0, 1, -1}, {`\{`, 1, 2, -1}, {`\}`, 1, 0, 2}, {`\}`, 2, 1, -1}, {`\{\}`, 0, 0, 4}, {`\{\}`, 1, 1, -1}, {`\{\{\}`, 0, 1, -1},
		{`a\{b\}c\}d`, 1, 0, 9}, {`a\{b\}c\}d`, 0, 0, 6}, {`a\{b\}c\}d`, 2, 1, -1}, {`\}x`, 1, 0, 2}, {`x\}`, 1, 0, 3},
		{`\}\{`, 1, 0, 2}, {`\}\}`, 1, 0, 2}, {`\}\}`, 2, 0, 4}, {`\{\}\{\}`, 0, 0, 4}, {`\}\{\{`, 2, 3, -1},
		{`\}`, 0, 0, -1}, {`\}\}\}`, 0, 0, -1}, {`\}\{`, 0, 1, -1}, {`\}\{\}x`, 0, 0, 6},
		{`\{`, -5, 1, -1}, {`\}`, -5, 0, -1}, {`\{\}`, -1, 0, 4}, {"x", -1, 0, -1}, {"x", math.MinInt, 0, -1},
		{`\\{`, 0, 0, -1}, {`\\}`, 1, 1, -1}, {`\\\{`, 0, 1, -1}, {`\\\}`, 1, 0, 4}, {`\\\\}`, 1, 1, -1}, {`\{\\{`, 0, 1, -1},
		{`\"\{`, 0, 1, -1}, {`\"\}`, 1, 0, 4}, {`\"{\"}`, 1, 1, -1}, {`"\{"`, 0, 1, -1}, {`\"\\}\}x`, 1, 0, 7}, {`\n\}`, 1, 0, 4}, {`\e\{`, 0, 1, -1},
		{`\`, 0, 0, -1}, {`\`, 4, 4, -1}, {`\}\`, 1, 0, 2}, {`\{\`, 0, 1, -1}, {`\ {`, 0, 0, -1},
		{"\\{\n\\}", 0, 0, 5}, {"\x00\xff\\}", 1, 0, 4}, {"é\\}", 1, 0, 4},
		{"x", math.MaxInt, math.MaxInt, -1}, {`\}`, math.MaxInt, math.MaxInt - 1, -1}, {`\{\}`, math.MaxInt, math.MaxInt, -1}, {`\{\}\}`, math.MaxInt, math.MaxInt - 1, -1},
		{repeated(`\{`, 65536) + repeated(`\}`, 65536) + `\}`, 0, 0, 4 * 65536}, {repeated(`\}`, 65536), 65537, 1, -1},
	} {
		if to, at := request.Braces(k.line, k.from); to != k.to || at != k.at {
			t.Errorf("%.50q from %d: %d, %d; want %d, %d", k.line, k.from, to, at, k.to, k.at)
		}
	}
}

// Behind a line that is gone over whole, a block's next line goes on from its depth.
func TestBracesOverParts(t *testing.T) {
	pieces := []string{`\{`, `\}`, `\\`, `\"`, `\n`, "{", "}", "a", `"`}
	var lines []string
	for _, a := range pieces {
		for _, b := range pieces {
			for _, c := range pieces {
				lines = append(lines, a+b, c+a+b)
			}
		}
	}
	for _, first := range lines {
		for from := range 4 {
			depth, at := request.Braces(first, from)
			for _, second := range []string{`\}x`, `x\{\}\}`, `\{`, "", `\\}`} {
				want, place := depth, at
				if at < 0 {
					want, place = request.Braces(second, depth)
					if place >= 0 {
						place += len(first)
					}
				}
				if to, got := request.Braces(first+second, from); to != want || got != place {
					t.Fatalf("%q and %q from %d: %d, %d; want %d, %d", first, second, from, to, got, want, place)
				}
			}
		}
	}
}
