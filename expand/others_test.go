package expand_test

import (
	"slices"
	"strings"
	"testing"

	"frisket/api"
	"frisket/expand"
)

// every makes all texts of some letters, up to a length.
func every(letters string, length int) []string {
	texts := []string{""}
	for start := 0; length > 0; length-- {
		end := len(texts)
		for _, s := range texts[start:end] {
			for i := range len(letters) {
				texts = append(texts, s+letters[i:i+1])
			}
		}
		start = end
	}
	return texts
}

// P4.2.
func TestProtect(t *testing.T) {
	for _, c := range []change{{"", ""}, {"a", "a"}, {`\`, `\\`}, {`\\`, `\\\\`}, {`a\nx`, `a\\nx`}, {`\"`, `\\"`}, {`.\.`, `.\\.`}, {"\x00\xff\r", "\x00\xff\r"}, {`\w'\nx'\`, `\\w'\\nx'\\`}} {
		if got, err := expand.Protect(c.from); got != c.to || err != api.OK {
			t.Errorf("%q: %q, error %d; want %q", c.from, got, err, c.to)
		}
	}
}

func TestProtectAtItsLimits(t *testing.T) {
	ts := func(n int) string { return strings.Repeat("t", n) }
	for _, k := range []struct {
		s   string
		err api.Errno
	}{
		{ts(2000), api.OK}, {ts(1998) + `\`, api.OK}, {strings.Repeat(`\`, 1000), api.OK}, {`\` + ts(1996) + `\`, api.OK},
		{ts(1999) + `\`, api.ErrLimit}, {`\` + ts(1999), api.ErrLimit}, {strings.Repeat(`\`, 1001), api.ErrLimit}, {strings.Repeat(`\`, 2000), api.ErrLimit}, {`\` + ts(1997) + `\`, api.ErrLimit},
		{ts(2001), api.ErrArg}, {strings.Repeat(`\`, 2001), api.ErrArg}, {ts(2000) + `\`, api.ErrArg}, {"\n", api.ErrArg}, {"a\nb", api.ErrArg}, {strings.Repeat(`\`, 1001) + "\n", api.ErrArg}, {ts(100000), api.ErrArg},
	} {
		want := ""
		if k.err == api.OK {
			want = strings.ReplaceAll(k.s, `\`, `\\`)
		}
		if got, err := expand.Protect(k.s); got != want || err != k.err {
			t.Errorf("%.50q of %d bytes: %d bytes, error %d; want %d, error %d", k.s, len(k.s), len(got), err, len(want), k.err)
		}
	}
}

func TestPlain(t *testing.T) {
	for _, s := range []string{"", "a", `\`, `\\`, `\e`, `\.`, `a\fB\\n`, `\\nx`, `\\"`, `\\\\w''`, `\n`, `\n(x`, `\n[]`, `\n[x y]`, `\n+`, `\* `, `\*+x`, `\$(`, `\w`, `\w'a`, `\w\a\`, `"`, `nx*x$1`, "\x00\xff", "a\nb", `\N`, strings.Repeat("t", 2001)} {
		if !expand.Plain(s) {
			t.Errorf("%.50q is not plain", s)
		}
	}
	for _, s := range []string{`\nx`, `\n(xy`, `\n[x]`, `\n+x`, `\n-[x]`, `\n\`, `\*x`, `\$1`, `\"`, `a\"`, `\w''`, `\w'a'`, `\\\nx`, `\\\"`, `\n \nx`, `\w'\nx`, `\w'\"`, `\fB\nx`, `\e\*[a]`, "a\nb\\nx", strings.Repeat("t", 2001) + `\"`} {
		if expand.Plain(s) {
			t.Errorf("%.50q is plain", s)
		}
	}
}

func TestNames(t *testing.T) {
	for s, want := range map[string]string{
		"": "", "a": "", `\nx`: "n:x", `\n+x\n-(xy\n[xyz]`: "n:x n:xy n:xyz", `\*x\*(xy\*[xyz]`: "*:x *:xy *:xyz", `\$1\$(12\$[123]`: "$:1 $:12 $:123", `\nx\nx`: "n:x n:x",
		`\nx\*(ab\w'\$1'\"\ny`: "n:x *:ab $:1", `\\nx`: "", `\\\nx`: "n:x", `\e\nx\fB\*y`: "n:x *:y", `\n\\nx`: `n:\ n:x`, `\n\\\nx`: `n:\`, `\n\nx`: `n:\`, `\n[+]`: "n:+",
		`\n`: "", `\n(x`: "", `\n \nx`: "n:x", `\n[\nx`: "n:x", `\n[\nx]`: `n:\nx`, `\*+x`: "", `\*+\nx`: "n:x",
		`\w''`: "", `\w'\nx'`: "n:x", `\w'a\w"\nx"\ny'\nz`: "n:x n:y n:z", `\w'\nx`: "n:x", `\w\nx`: "n:x", `\w'\n'x'`: "", `\w(\n(xy(\nz`: "n:z", `\wn\nxn`: "", `\w'\\nx'`: "",
		`\"\nx`: "", `\nx\"\ny`: "n:x", `\\"\nx`: "n:x", `\w'\nx\"\ny'`: "n:x", `\w'\nx\"\ny'\nz`: "n:x", `\w'\nx\"`: "n:x",
		"\\nx\n\\ny": "n:x n:y",
	} {
		if got := expand.Names(s); !slices.Equal(got, strings.Fields(want)) {
			t.Errorf("%q: %q, want %q", s, got, want)
		}
	}
	if got := expand.Names(strings.Repeat(`t\nx`, 50000)); len(got) != 50000 || got[49999] != "n:x" {
		t.Error("a long text:", len(got))
	}
}

// Texts of any length must not be gone through for each escape anew.
func TestLongTexts(t *testing.T) {
	for _, s := range []string{`\n[`, `\w'`, `\w"\w'`, `\n[\n(`, `\`, `\w''`, `\n+`} {
		long := strings.Repeat(s, 1000000)
		expand.Plain(long)
		if got := expand.Names("\\nx" + long); len(got) == 0 || got[0] != "n:x" {
			t.Errorf("%s: %.3q", s, got)
		}
	}
}

func TestJoin(t *testing.T) {
	for _, k := range []struct{ from, to []string }{
		{nil, nil}, {[]string{}, nil}, {[]string{""}, []string{""}}, {[]string{`\`}, []string{`\`}}, {[]string{`a\`}, []string{`a\`}}, {[]string{"a", "b"}, []string{"a", "b"}},
		{[]string{`a\`, "b", `c\\`, `d\`}, []string{"ab", `c\\`, `d\`}},
		{[]string{`a\`, "b"}, []string{"ab"}}, {[]string{`a\\`, "b"}, []string{`a\\`, "b"}}, {[]string{`a\\\`, "b"}, []string{`a\\b`}}, {[]string{`a\\\\`, "b"}, []string{`a\\\\`, "b"}},
		{[]string{`a\`, `b\`, "c", "d"}, []string{"abc", "d"}}, {[]string{`a\`, `b\`}, []string{`ab\`}}, {[]string{`a\`, `b\\`}, []string{`ab\\`}}, {[]string{`a\`, `\`, "b"}, []string{"ab"}}, {[]string{`a\`, `\\`, "b"}, []string{`a\\`, "b"}}, {[]string{`a\`, `\`}, []string{`a\`}},
		{[]string{`\`, `\`, `\`, `\`}, []string{`\`}}, {[]string{`\`, ""}, []string{""}}, {[]string{`a\`, "", "b"}, []string{"a", "b"}}, {[]string{"", "", ""}, []string{"", "", ""}},
		{[]string{`a\ `, "b"}, []string{`a\ `, "b"}}, {[]string{`a\b`, `\c`}, []string{`a\b`, `\c`}}, {[]string{"a\\\n", "b\\", "c"}, []string{"a\\\n", "bc"}},
	} {
		before := slices.Clone(k.from)
		if got := expand.Join(k.from); !slices.Equal(got, k.to) {
			t.Errorf("%q: %q, want %q", before, got, k.to)
		}
		if !slices.Equal(k.from, before) {
			t.Errorf("%q was changed to %q", before, k.from)
		}
	}
}

func TestJoinOfManyLines(t *testing.T) {
	going := slices.Repeat([]string{`ab\`}, 100000)
	if got := expand.Join(append(going, "c")); len(got) != 1 || got[0] != strings.Repeat("ab", 100000)+"c" {
		t.Error(len(got), "lines")
	}
	lines := []string{"a", "b"}
	expand.Join(lines)[0] = "c"
	if lines[0] != "a" {
		t.Error("the result is the argument")
	}
}

// P4.3: copy mode takes away what Protect has put there.
func TestCopyModeOfProtect(t *testing.T) {
	never := func(byte, string, int) string {
		t.Error("asked in a text that was protected")
		return ""
	}
	texts := append(every(`\nw'."x`, 5), strings.Repeat(`\`, 1000), strings.Repeat(`\nxy`, 400), strings.Repeat("t", 2000), "\x00\xff")
	for _, s := range texts {
		protected, err := expand.Protect(s)
		if err != api.OK {
			t.Fatalf("%q: error %d", s, err)
		}
		checkExpansion(t, protected, true, never, s)
		// Twice protected, it is protected once behind the first copy mode.
		if twice, err := expand.Protect(protected); err == api.OK {
			checkExpansion(t, twice, true, never, protected)
		}
	}
}

// P4.3: a plain text is left as it is, and a text that is not plain is changed by some Look.
func TestPlainTextsAreLeft(t *testing.T) {
	strange := func(byte, string, int) string { return strings.Repeat("z", 50) }
	for _, s := range every(`\nw*'"([]x+`, 5) {
		a := asker{}
		silently, e1 := expand.Expand(s, false, a.look)
		changed, e2 := expand.Expand(s, false, strange)
		if e1 != api.OK || e2 != api.OK {
			t.Fatalf("%q: errors %d, %d", s, e1, e2)
		}
		if left := silently == s && changed == s && len(a.asked) == 0; left != expand.Plain(s) {
			t.Fatalf("%q: plain is %v, but it becomes %q and %q", s, !left, silently, changed)
		}
	}
}

// Names are what is asked where answers bring no further questions.
func TestNamesAreWhatIsAsked(t *testing.T) {
	for _, s := range every(`\nw*$'(x-`, 5) {
		var asked []string
		expand.Expand(s, false, func(kind byte, name string, _ int) string {
			if kind != 'w' {
				asked = append(asked, string(rune(kind))+":"+name)
			}
			return ""
		})
		if got := expand.Names(s); !slices.Equal(got, asked) {
			t.Fatalf("%q: names %q, asked %q", s, got, asked)
		}
	}
}

// P4.3: behind a plain text, which begins no escape that goes on, a text is expanded as by itself.
func TestTextsBehindPlainOnes(t *testing.T) {
	firsts := []string{"", "a", `\\a`, `a\e`, `\fB`, `\. '`, `\\n`, `\e\\\\x`, `x"'[(+-`, `\n x`, `\n[]x`, `\*+x`, "\xff\x00"}
	for _, second := range every(`\nw*'"(x.`, 4) {
		want, err := expand.Expand(second, false, echo)
		if err != api.OK {
			t.Fatalf("%q: error %d", second, err)
		}
		for _, first := range firsts {
			if !expand.Plain(first) || strings.HasSuffix(first, `\`) {
				t.Fatalf("%q is no plain text to begin with", first)
			}
			checkExpansion(t, first+second, false, echo, first+want)
		}
	}
}
