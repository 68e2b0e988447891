package request_test

import (
	"regexp"
	"slices"
	"strings"
	"testing"

	"frisket/api"
	"frisket/request"
)

// P6.2.
func TestWords(t *testing.T) {
	for s, want := range map[string][]string{
		"": nil, " ": nil, " \t\t ": nil, "a": {"a"}, "a b": {"a", "b"}, " \ta\t b \t": {"a", "b"}, "a\tb": {"a", "b"},
		`a "b c" d"e`: {"a", "b c", `d"e`}, `"a b"`: {"a b"}, "\"a\tb\"": {"a\tb"}, `" a "" b "`: {` a " b `}, `a"b c"`: {`a"b`, `c"`}, `a""b`: {`a""b`}, `a"`: {`a"`},
		`""`: {""}, `"" ""`: {"", ""}, `"`: {""}, `a "`: {"a", ""}, `"a b`: {"a b"}, `"a `: {"a "}, `"a ""`: {`a "`},
		`"""`: {`"`}, `""""`: {`"`}, `"""""`: {`""`}, `""""""`: {`""`}, `"a"""`: {`a"`}, `"a""b"`: {`a"b`}, `"a"" "b`: {`a" b`}, `"""a"" b"`: {`"a" b`},
		`"a"b`: {"ab"}, `"a"b c`: {"ab", "c"}, `"a"b"c d"`: {`ab"c`, `d"`}, `"a b"c"d e`: {`a bc"d`, "e"}, `""a`: {"a"}, `"" a`: {"", "a"}, `"a"b""c`: {`ab""c`}, `"a" "b"`: {"a", "b"},
		`c\ d`: {`c\ d`}, "c\\\td": {"c\\\td"}, `\ `: {`\ `}, `\  a`: {`\ `, "a"}, `a\\ b`: {`a\\`, "b"}, `a\\\ b`: {`a\\\ b`}, `a\`: {`a\`}, `a \`: {"a", `\`}, `\\`: {`\\`}, `\ \ \`: {`\ \ \`},
		`\"a b"`: {`\"a`, `b"`}, `\"`: {`\"`}, `\\"a b"`: {`\\"a`, `b"`},
		`"e\"f"`: {`e\"f`}, `"e\" f"`: {`e\" f`}, `"e\\"f g`: {`e\\f`, "g"}, `"e\\""f g"`: {`e\\"f g`}, `"e\""f g"`: {`e\"f`, `g"`}, `"a\`: {`a\`}, `"a\"`: {`a\"`}, `"\ "`: {`\ `}, `"a"\ b c`: {`a\ b`, "c"}, `"a"\" b`: {`a\"`, "b"}, `"a"\`: {`a\`}, `"\`: {`\`},
		"a\nb\r c": {"a\nb\r", "c"}, "\x00 \xff": {"\x00", "\xff"}, "é \"è \xe8\"": {"é", "è \xe8"}, "\u00a0 \u2003": {"\u00a0", "\u2003"}, "a\vb\fc": {"a\vb\fc"},
	} {
		if got := request.Words(s); !slices.Equal(got, want) {
			t.Errorf("%q: %q, want %q", s, got, want)
		}
	}
}

var (
	quotedWord = regexp.MustCompile(`^(?s)"((?:""|\\.|[^"\\]|\\$)*)(?:"|$)((?:\\.|[^ \t\\]|\\$)*)`)
	bareWord   = regexp.MustCompile(`^(?s)(?:\\.|[^ \t\\]|\\$)+`)
	escaped    = regexp.MustCompile(`\\.|""`)
)

// wordsByPatterns is a second way to tell the words of a text.
func wordsByPatterns(s string) []string {
	var words []string
	for s = strings.TrimLeft(s, " \t"); s != ""; s = strings.TrimLeft(s, " \t") {
		if m := quotedWord.FindStringSubmatch(s); m != nil {
			text := escaped.ReplaceAllStringFunc(m[1], func(pair string) string { return strings.Replace(pair, `""`, `"`, 1) })
			words = append(words, text+m[2])
			s = s[len(m[0]):]
			continue
		}
		m := bareWord.FindString(s)
		words = append(words, m)
		s = s[len(m):]
	}
	return words
}

func TestWordsOfAllShortTexts(t *testing.T) {
	for _, s := range every("a\" \\\t", 7) {
		if got, want := request.Words(s), wordsByPatterns(s); !slices.Equal(got, want) {
			t.Fatalf("%q: %q, want %q", s, got, want)
		}
	}
}

// Texts of any length must not be gone through for each word anew.
func TestLongTexts(t *testing.T) {
	for s, words := range map[string]int{"a ": 1000000, " ": 0, `"a b" `: 1000000, `"`: 1, `\ `: 1, `"" `: 1000000, `"\" `: 500000, "a": 1} {
		if got := request.Words(repeated(s, 1000000)); len(got) != words {
			t.Errorf("%q: %d words, want %d", s, len(got), words)
		}
	}
}

func TestWordsAreNew(t *testing.T) {
	const s = `a "b c"`
	request.Words(s)[0] = "changed"
	if got := request.Words(s); !slices.Equal(got, []string{"a", "b c"}) {
		t.Errorf("%q", got)
	}
}

func checkWritten(t *testing.T, name string, args []string, want string) {
	t.Helper()
	before := slices.Clone(args)
	if got, err := request.Write(name, args); got != want || err != api.OK {
		t.Errorf("%.50q %.100q: %.300q, error %d; want %.300q", name, args, got, err, want)
	}
	if !slices.Equal(args, before) {
		t.Errorf("%.100q was changed to %.100q", before, args)
	}
}

func checkNotWritten(t *testing.T, name string, args []string, want api.Errno) {
	t.Helper()
	if got, err := request.Write(name, args); got != "" || err != want {
		t.Errorf("%.50q %.100q: %.300q, error %d; want error %d", name, args, got, err, want)
	}
}

// P6.3.
func TestWrite(t *testing.T) {
	checkWritten(t, "x", nil, ".x")
	checkWritten(t, "x", []string{}, ".x")
	checkWritten(t, ".", nil, "..")
	checkWritten(t, `"a`, []string{"b"}, `."a b`)
	checkWritten(t, `a\`, []string{"b"}, `.a\ b`)
	checkWritten(t, "\x00\xffé", []string{"\x00\xffé"}, ".\x00\xffé \x00\xffé")
	checkWritten(t, repeated("n", 50), nil, "."+repeated("n", 50))
	checkWritten(t, "x", []string{"a", "", "b c", `"q`}, `.x a "" "b c" """q"`)
	for arg, want := range map[string]string{
		"": `""`, "a": "a", " ": `" "`, "\t": "\"\t\"", "a b": `"a b"`, "a\tb": "\"a\tb\"", " a": `" a"`, "a ": `"a "`,
		`"`: `""""`, `""`: `""""""`, `"a`: `"""a"`, `"a"`: `"""a"""`, `"a b"`: `"""a b"""`, `a"`: `a"`, `a"b`: `a"b`, `a""b"`: `a""b"`, `a" b`: `"a"" b"`, `a b"`: `"a b"""`,
		`\"`: `\"`, `\"a"`: `\"a"`, `\a`: `\a`, `\\`: `\\`, `a\\`: `a\\`, `\ `: `"\ "`, `a\ b`: `"a\ b"`, `a b\\`: `"a b\\"`, `\\" b`: `"\\"" b"`, `"\\`: `"""\\"`, `\\\\"`: `\\\\"`, `\n(xx`: `\n(xx`,
		"'": "'", ".": ".", "\r": "\r", "\xa0": "\xa0",
	} {
		checkWritten(t, "xx", []string{arg}, ".xx "+want)
		checkWritten(t, "xx", []string{arg, arg, "b"}, ".xx "+want+" "+want+" b")
	}
}

func TestWriteOfWrongNames(t *testing.T) {
	for _, name := range []string{"", " ", "\t", "a b", "a ", " a", "a\tb", "\n", "a\n", "a\nb"} {
		checkNotWritten(t, name, nil, api.ErrForm)
		checkNotWritten(t, name, []string{"a"}, api.ErrForm)
	}
}

// A " that belongs to a \ cannot be doubled, and a \ at the end takes the " behind it.
func TestWriteOfWrongArguments(t *testing.T) {
	for _, arg := range []string{"\n", "a\n", "a b\nc", "\"\n", `\`, `a\`, `a\\\`, `a b\`, `"\`, `"a\\\`, `\\\`, `\" b`, `a \"`, `"\"`, `"a\"b`, `a \""`, `\\\" b`, `a b\"c d`} {
		checkNotWritten(t, "x", []string{arg}, api.ErrForm)
		checkNotWritten(t, "x", []string{arg, "b"}, api.ErrForm)
		checkNotWritten(t, "x", []string{"a b", arg, `b"`}, api.ErrForm)
		checkNotWritten(t, "x", []string{arg, arg}, api.ErrForm)
		checkNotWritten(t, "", []string{arg}, api.ErrForm)
	}
}

// P6.1: a line that is too long comes ahead of all that is malformed.
func TestWriteAtItsLimit(t *testing.T) {
	as := func(n int) string { return repeated("a", n) }
	checkWritten(t, as(1999), nil, "."+as(1999))
	checkWritten(t, "x", []string{as(1997)}, ".x "+as(1997))
	checkWritten(t, "x", []string{as(1994) + " "}, ".x \""+as(1994)+" \"")
	checkWritten(t, "x", []string{`"` + as(1993)}, `.x """`+as(1993)+`"`)
	checkWritten(t, "x", slices.Repeat([]string{"a"}, 999), ".x"+repeated(" a", 999))
	checkWritten(t, "x", slices.Repeat([]string{""}, 666), ".x"+repeated(` ""`, 666))
	for _, k := range []struct {
		name string
		args []string
	}{
		{as(2000), nil}, {"x", []string{as(1998)}}, {"x", []string{as(1995) + " "}}, {"x", []string{`"` + as(1994)}}, {"x", slices.Repeat([]string{"a"}, 1000)}, {"x", slices.Repeat([]string{""}, 667)},
		{"", []string{as(2000)}}, {"a b", []string{as(2000)}}, {as(2000) + " ", nil}, {as(2000) + "\n", nil}, {"x", []string{as(2000), "\n"}}, {"x", []string{as(2000) + `\`}}, {"x", []string{`a\`, as(2000)}}, {"x", []string{as(2000) + "\n"}},
		{"x", slices.Repeat([]string{"a b"}, 1000000)}, {"x", []string{repeated(`"`, 1000000)}},
	} {
		checkNotWritten(t, k.name, k.args, api.ErrArg)
	}
	checkNotWritten(t, "x", []string{as(1996) + "\n"}, api.ErrForm)
	checkNotWritten(t, "x", []string{as(1994) + `\`}, api.ErrForm)
	checkNotWritten(t, "", []string{as(1998)}, api.ErrForm)
}

// writable tells by a \ and its byte taken together whether quotes can stand around an argument that needs them.
func writable(arg string) bool {
	single := regexp.MustCompile(`\\.`).ReplaceAllStringFunc(arg, func(pair string) string {
		if pair == `\"` {
			return "Q"
		}
		return "p"
	})
	return !strings.HasSuffix(single, `\`) && (!strings.Contains(single, "Q") || !strings.ContainsAny(arg, " \t") && arg[0] != '"')
}

func checkReadAgain(t *testing.T, args []string) {
	t.Helper()
	line, err := request.Write("xx", args)
	if written := !slices.ContainsFunc(args, func(arg string) bool { return !writable(arg) }); !written {
		if line != "" || err != api.ErrForm {
			t.Fatalf("%q: %q, error %d", args, line, err)
		}
		return
	}
	got, is, e := request.Split(line, '.', '\'')
	if err != api.OK || e != api.OK || !is || got.Name != "xx" || got.Quiet || !slices.Equal(got.Args, args) || !slices.Equal(request.Words(got.Rest), args) {
		t.Fatalf("%q: %q, error %d, read as %+v, %v, error %d", args, line, err, got, is, e)
	}
}

// P6.4.
func TestWhatIsWrittenIsReadAgain(t *testing.T) {
	for _, arg := range every("a\" \\\t", 6) {
		checkReadAgain(t, []string{arg})
	}
	short := every("a\" \\", 3)
	for _, first := range short {
		for _, second := range short {
			checkReadAgain(t, []string{first, second})
		}
	}
	few := every("\" \\", 2)
	for _, first := range few {
		for _, second := range few {
			for _, third := range few {
				checkReadAgain(t, []string{first, second, third})
			}
		}
	}
}

// P6.4: the words of a line are written such that they are read again, if they can be.
func TestWordsAreWrittenAgain(t *testing.T) {
	for _, s := range every("a\" \\", 7) {
		checkReadAgain(t, request.Words(s))
	}
}
