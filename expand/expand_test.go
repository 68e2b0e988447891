package expand_test

import (
	"slices"
	"strconv"
	"strings"
	"testing"

	"frisket/api"
	"frisket/expand"
)

// question is what a Look was asked.
type question struct {
	kind byte
	name string
	step int
}

// asker answers by the kind and the name, and keeps what it was asked.
type asker struct {
	answers map[string]string
	asked   []question
}

func (a *asker) look(kind byte, name string, step int) string {
	a.asked = append(a.asked, question{kind, name, step})
	return a.answers[string(rune(kind))+name]
}

// echo answers a question with its parts, which are never an escape.
func echo(kind byte, name string, step int) string {
	return "<" + string(rune(kind)) + strconv.Itoa(step) + strings.ReplaceAll(name, `\`, "/") + ">"
}

func silent(byte, string, int) string { return "" }

func checkExpansion(t *testing.T, s string, copyMode bool, look expand.Look, want string) {
	t.Helper()
	if got, err := expand.Expand(s, copyMode, look); got != want || err != api.OK {
		t.Errorf("%q, copy mode %v: %.200q, error %d; want %.200q", s, copyMode, got, err, want)
	}
}

func checkRefused(t *testing.T, s string, look expand.Look, want api.Errno) {
	t.Helper()
	for _, copyMode := range []bool{false, true} {
		if got, err := expand.Expand(s, copyMode, look); got != "" || err != want {
			t.Errorf("%.100q, copy mode %v: %.100q, error %d; want error %d", s, copyMode, got, err, want)
		}
	}
}

// checkAsked checks an expansion, and which questions it asked, in their order.
func checkAsked(t *testing.T, s string, copyMode bool, answers map[string]string, want string, asked ...question) {
	t.Helper()
	a := asker{answers: answers}
	checkExpansion(t, s, copyMode, a.look, want)
	if !slices.Equal(a.asked, asked) {
		t.Errorf("%q, copy mode %v: asked %v, want %v", s, copyMode, a.asked, asked)
	}
}

type change struct{ from, to string }

func checkChanges(t *testing.T, copyMode bool, changes []change) {
	t.Helper()
	for _, c := range changes {
		checkExpansion(t, c.from, copyMode, echo, c.to)
	}
}

// repeats answers each question with n bytes.
func repeats(n int) expand.Look {
	return func(byte, string, int) string { return strings.Repeat("r", n) }
}

// P4.1: what is wrong with an argument comes ahead of a limit, and nothing is asked.
func TestWrongArgumentsComeFirst(t *testing.T) {
	long := strings.Repeat("t", 2000)
	a := asker{}
	for _, s := range []string{"\n", "a\n", "\\*a\nb", `\n` + "\n", "\\\"\n", "\\\n", long + "t", `\"` + long, strings.Repeat(`\*a`, 667), long + "\n", strings.Repeat("t", 100000)} {
		checkRefused(t, s, a.look, api.ErrArg)
		checkRefused(t, s, nil, api.ErrArg)
	}
	if len(a.asked) > 0 {
		t.Error("asked ahead of an error:", a.asked)
	}
	for _, s := range []string{"", "a", `\nx`, strings.Repeat(`\nx`, 501), long} {
		checkRefused(t, s, nil, api.ErrArg)
	}
}

func TestTextsAtTheLimit(t *testing.T) {
	for _, s := range []string{"", "t", "\r\x00\xff\t", strings.Repeat("t", 2000), strings.Repeat("é", 1000), strings.Repeat(`\\`, 1000)} {
		checkExpansion(t, s, false, silent, s)
	}
	checkExpansion(t, strings.Repeat(`\\`, 1000), true, silent, strings.Repeat(`\`, 1000))
	checkExpansion(t, strings.Repeat(`\nx`, 400)+strings.Repeat("t", 800), false, silent, strings.Repeat("t", 800))
}

// A Look that panics is no function as it is described, whatever it panics with.
func TestLookThatPanics(t *testing.T) {
	for _, thrown := range []any{"", api.ErrLimit, api.OK, nil, 2} {
		look := func(kind byte, _ string, _ int) string {
			if kind != 'w' {
				return "a"
			}
			panic(thrown)
		}
		for _, s := range []string{`\w'x'`, `\nx\w'\nx'b`, `\w'\w"x"'`} {
			if got, err := expand.Expand(s, false, look); got != "" || err != api.ErrArg {
				t.Errorf("%s, thrown %v: %q, error %d", s, thrown, got, err)
			}
		}
		checkExpansion(t, `\nx\\`, true, look, `a\`)
	}
}

// P4.1: the 501st question is the one too many, and is not asked.
func TestNumberOfQuestions(t *testing.T) {
	for _, k := range []struct {
		s    string
		each int
	}{{`\n1`, 1}, {`\*1`, 1}, {`\$1`, 1}, {`\n1\*1`, 2}, {`\$1\n1`, 2}} {
		for _, copyMode := range []bool{false, true} {
			checkCount(t, strings.Repeat(k.s, 500/k.each), copyMode, api.OK, 500)
			checkCount(t, strings.Repeat(k.s, 500/k.each)+k.s, copyMode, api.ErrLimit, 500)
			checkCount(t, strings.Repeat(k.s, 500/k.each)+`\"`+k.s, copyMode, api.OK, 500)
		}
	}
}

func TestNumberOfQuestionsWithWidths(t *testing.T) {
	for _, k := range []struct {
		s     string
		err   api.Errno
		asked int
	}{
		{strings.Repeat(`\w''`, 500), api.OK, 500},
		{`\w'` + strings.Repeat(`\n1`, 499) + `'`, api.OK, 500},
		{`\w'` + strings.Repeat(`\n1`, 500) + `'`, api.ErrLimit, 500},
		{`\w'` + strings.Repeat(`\n1`, 499) + `'\n1`, api.ErrLimit, 500},
		{`\n1\w'` + strings.Repeat(`\n1`, 499) + `'`, api.ErrLimit, 500},
		{strings.Repeat(`\w'\n1'`, 250), api.OK, 500},
		{strings.Repeat(`\w'\n1'`, 250) + `\w''`, api.ErrLimit, 500},
		{strings.Repeat(`\w'\w"\n1"'`, 166) + `\w'\n1'`, api.OK, 500},
		{strings.Repeat(`\w'\w"\n1"'`, 166) + `\w'\w"\n1"'`, api.ErrLimit, 500},
	} {
		checkCount(t, k.s, false, k.err, k.asked)
	}
	checkCount(t, strings.Repeat(`\w''`, 500), true, api.OK, 0)
}

func checkCount(t *testing.T, s string, copyMode bool, want api.Errno, asked int) {
	t.Helper()
	a := asker{}
	if _, err := expand.Expand(s, copyMode, a.look); err != want || len(a.asked) != asked {
		t.Errorf("%.60q, copy mode %v: error %d after %d questions; want error %d after %d", s, copyMode, err, len(a.asked), want, asked)
	}
}

// Each call has questions of its own, and so has one that a Look makes.
func TestCallsHaveQuestionsOfTheirOwn(t *testing.T) {
	many := strings.Repeat(`\nx`, 400)
	inner := func(byte, string, int) string {
		s, err := expand.Expand(many, false, repeats(1))
		return strconv.Itoa(len(s)) + "/" + strconv.Itoa(int(err))
	}
	for range 3 {
		checkExpansion(t, many, false, silent, "")
		checkExpansion(t, strings.Repeat(`\nx`, 3), false, inner, strings.Repeat("400/0", 3))
	}
	failing := func(byte, string, int) string {
		_, err := expand.Expand(`\nx`, false, repeats(8001))
		return strconv.Itoa(int(err))
	}
	checkExpansion(t, `\nx`, false, failing, "2")
}

// P4.1: result and rest are 8000 bytes at most, behind each answer.
func TestNumberOfBytes(t *testing.T) {
	for _, k := range []struct {
		s     string
		each  int
		whole int
	}{
		{`\nx`, 8000, 8000}, {`\*x`, 8000, 8000}, {`\$1`, 8000, 8000}, {`\w''`, 8000, 8000},
		{`abc\nx`, 7997, 8000}, {`\nxabc`, 7997, 8000}, {`ab\nxc`, 7997, 8000}, {`ab\*xc`, 7997, 8000}, {`ab\w''c`, 7997, 8000},
		{`\nx\nx`, 4000, 8000}, {`\*x\*x`, 4000, 8000}, {`\$1\$2`, 4000, 8000}, {`\w''\w''`, 4000, 8000}, {`\nx\*x\$1\w''`, 2000, 8000},
		{`\nx\"`, 7998, 7998}, {`\*x\"abc`, 7995, 7995}, {`\nx\fB`, 7997, 8000},
		{strings.Repeat(`\nx`, 500), 16, 8000}, {strings.Repeat(`\*x`, 500), 16, 8000},
		{`\w'\*x'`, 8000, 8000}, {`\w'a\nxb'`, 7998, 7998}, {`\w'\w"\$1"'`, 8000, 8000},
	} {
		checkExpandedLength(t, k.s, k.each, k.whole, api.OK)
		checkExpandedLength(t, k.s, k.each+1, 0, api.ErrLimit)
	}
	checkExpandedLength(t, `\nx`, 1000000, 0, api.ErrLimit)
}

func checkExpandedLength(t *testing.T, s string, each, want int, err api.Errno) {
	t.Helper()
	got, e := expand.Expand(s, false, repeats(each))
	if len(got) != want || e != err {
		t.Errorf("%.60q with answers of %d: %d bytes, error %d; want %d, error %d", s, each, len(got), e, want, err)
	}
}

// What becomes shorter later, or is left out, counts at first.
func TestBytesAreCountedBehindEachAnswer(t *testing.T) {
	half, whole := strings.Repeat(`\\`, 2000), strings.Repeat(`\\`, 4000)
	answers := map[string]string{"*half": half, "*whole": whole, "*comment": `\"` + strings.Repeat("c", 7998), "*more": `\"` + strings.Repeat("c", 7999)}
	checkAsked(t, `\*[whole]`, true, answers, whole[:4000], question{'*', "whole", 0})
	checkAsked(t, `\*[comment]`, true, answers, "", question{'*', "comment", 0})
	for _, s := range []string{`\*[whole]a`, `a\*[whole]`, `\*[whole]\"`, `\*[more]`, `\*[comment]a`} {
		checkRefused(t, s, (&asker{answers: answers}).look, api.ErrLimit)
	}
	// In copy mode the first half is 2000 bytes by the time the second is asked for.
	checkAsked(t, `\*[half]\*[half]`, true, answers, half, question{'*', "half", 0}, question{'*', "half", 0})
	checkAsked(t, `\*[half]\*[half]\*[half]`, true, answers, half+half[:2000], question{'*', "half", 0}, question{'*', "half", 0}, question{'*', "half", 0})
}

// A width's answer is short, but the text on which it is asked must have room as well.
func TestBytesOfTheTextOfAWidth(t *testing.T) {
	for n, want := range map[int]api.Errno{8000: api.OK, 8001: api.ErrLimit} {
		look := func(kind byte, name string, _ int) string {
			if kind == 'w' {
				return strconv.Itoa(len(name))
			}
			return strings.Repeat("r", n)
		}
		for _, s := range []string{`\w'\*x'`, `\w'\nx'`, `\w"\w'\$1'"`} {
			if _, err := expand.Expand(s, false, look); err != want {
				t.Errorf("%s with answers of %d bytes: error %d, want %d", s, n, err, want)
			}
		}
	}
}

func TestLoops(t *testing.T) {
	for _, answer := range []string{`\*a`, `a\*a`, `\*a\*a`, `\*aa`, `\$1`, `\w'\*a'`, `\w"\*a`, `\nx\*a`} {
		look := func(kind byte, _ string, _ int) string {
			if kind == 'n' {
				return "n"
			}
			return answer
		}
		for _, s := range []string{`\*a`, `\$1`, `x\*ay`, `\\\nx\*a`} {
			checkRefused(t, s, look, api.ErrLimit)
		}
	}
}

// P4.1: names of one byte, of two and of up to 20.
func TestNamesOfOneByte(t *testing.T) {
	for b := range 256 {
		one := string([]byte{byte(b)})
		valid := 33 <= b && b <= 126 && strings.IndexByte("([+-", byte(b)) < 0
		for _, kind := range []byte("n*$") {
			s := `\` + string(rune(kind)) + one
			if b == '\n' {
				continue
			}
			if valid {
				checkAsked(t, s+"x", false, nil, "x", question{kind, one, 0})
				checkAsked(t, `\`+string(rune(kind))+"("+one+one+"x", true, nil, "x", question{kind, one + one, 0})
				checkAsked(t, `\`+string(rune(kind))+"(a"+one+"x", false, nil, "x", question{kind, "a" + one, 0})
			} else if b != '+' && b != '-' || kind != 'n' {
				checkAsked(t, s+" ", false, nil, s+" ")
				checkAsked(t, s+" ", true, nil, s+" ")
			}
			if !valid {
				checkAsked(t, `\`+string(rune(kind))+"("+one+"xy", false, nil, `\`+string(rune(kind))+"("+one+"xy")
				checkAsked(t, `\`+string(rune(kind))+"(x"+one+"y", true, nil, `\`+string(rune(kind))+"(x"+one+"y")
			}
		}
	}
}

func TestLongNames(t *testing.T) {
	for b := range 256 {
		one := string([]byte{byte(b)})
		if 33 <= b && b <= 126 && b != ']' {
			checkAsked(t, `\n[`+one+"]x", false, nil, "x", question{'n', one, 0})
			checkAsked(t, `\*[a`+one+"a]x", true, nil, "x", question{'*', "a" + one + "a", 0})
		} else if b != '\n' && b != ']' {
			checkAsked(t, `\$[a`+one+"]x", false, nil, `\$[a`+one+"]x")
		}
	}
	for n := range 40 {
		name := strings.Repeat("n", n)
		if 1 <= n && n <= 20 {
			checkAsked(t, `\*[`+name+`]]`, false, nil, "]", question{'*', name, 0})
			checkAsked(t, `\n-[`+name+`]]`, false, nil, "]", question{'n', name, -1})
		} else {
			checkAsked(t, `\*[`+name+`]]`, false, nil, `\*[`+name+`]]`)
			checkAsked(t, `\n+[`+name+`]]`, true, nil, `\n+[`+name+`]]`)
		}
	}
}

func TestSteps(t *testing.T) {
	checkAsked(t, `\n+x\n-x\nx`, false, nil, "", question{'n', "x", 1}, question{'n', "x", -1}, question{'n', "x", 0})
	checkAsked(t, `\n+(xy\n-(+x`, true, nil, `\n-(+x`, question{'n', "xy", 1})
	checkAsked(t, `\n-[+x]\n[-x]\n[+]\n+\a`, false, nil, "a", question{'n', "+x", -1}, question{'n', "-x", 0}, question{'n', "+", 0}, question{'n', `\`, 1})
	for _, s := range []string{`\n+`, `\n-`, `\n++x`, `\n+-x`, `\n--x`, `\n+ x`, `\n+[]`, `\n+(x`, `\n-[x`, `\*+x`, `\*-x`, `\$+1`, `\$-1`, `\*+(xy`, `\$-[x]`} {
		checkAsked(t, s, false, nil, s)
		checkAsked(t, s, true, nil, s)
	}
}

// P4.1: what Look is asked, in which order, and what is read again.
func TestQuestions(t *testing.T) {
	answers := map[string]string{"nx": "3", "*s": `a\nx`, "$1": `\*s!`, "*back": `\`, "*open": `\n(x`, "*n": `\n`, "nq": `\nx\*s`, "*w": `\w'b`, "wb": `\nx`, "wb3": `\*s`, "*quote": `'`, "*end": `\"e`, "*empty": "", "*esc": `\e`, "*deep": `\*(s2`, "*s2": "S"}
	n, s := question{'n', "x", 0}, question{'*', "s", 0}
	checkAsked(t, `a\nxb`, false, answers, "a3b", n)
	checkAsked(t, `\*s`, false, answers, "a3", s, n)
	checkAsked(t, `\$1-\nx`, false, answers, "a3!-3", question{'$', "1", 0}, s, n, n)
	checkAsked(t, `\nq`, false, answers, `\nx\*s`, question{'n', "q", 0})
	checkAsked(t, `\w'b'`, false, answers, `\nx`, question{'w', "b", 0})
	checkAsked(t, `\w'b\nx'`, false, answers, `\*s`, n, question{'w', "b3", 0})
	checkAsked(t, `\*[empty]\*[empty]`, false, answers, "", question{'*', "empty", 0}, question{'*', "empty", 0})
	checkAsked(t, `\*[deep]`, false, answers, "S", question{'*', "deep", 0}, question{'*', "s2", 0})
	checkAsked(t, `\*[end]f\nx`, false, answers, "", question{'*', "end", 0})
	checkAsked(t, `\*[esc]\nx`, true, answers, `\e3`, question{'*', "esc", 0}, n)
	// An answer's end and the rest make an escape together.
	checkAsked(t, `\*[back]nx`, false, answers, "3", question{'*', "back", 0}, n)
	checkAsked(t, `\*[back]\*[back]`, false, answers, `\\*[back]`, question{'*', "back", 0})
	checkAsked(t, `\*[back].`, true, answers, ".", question{'*', "back", 0})
	checkAsked(t, `\*[back]"x`, false, answers, "", question{'*', "back", 0})
	checkAsked(t, `\*[open]y`, false, answers, "", question{'*', "open", 0}, question{'n', "xy", 0})
	checkAsked(t, `\*n+x`, false, answers, "3", question{'*', "n", 0}, question{'n', "x", 1})
	checkAsked(t, `\*w'-`, false, answers, `\nx-`, question{'*', "w", 0}, question{'w', "b", 0})
	checkAsked(t, `\*w\nx'`, false, answers, `\*s`, question{'*', "w", 0}, n, question{'w', "b3", 0})
	// In front of an answer, a \ has been read already.
	checkAsked(t, `\\*s`, false, answers, `\\*s`)
	checkAsked(t, `\n\*s`, false, answers, "*s", question{'n', `\`, 0})
	checkAsked(t, `\n(\*s`, false, answers, "s", question{'n', `\*`, 0})
}

func TestAnswersStandAsTheyAre(t *testing.T) {
	const strange = "a\nb\x00\xff\té "
	for _, s := range []string{`\nx`, `\*x`, `\$1`, `\w''`} {
		checkExpansion(t, s+"c", false, func(byte, string, int) string { return strange }, strange+"c")
	}
	a := asker{answers: map[string]string{"*x": "\\\n", "*y": "a\nb", "*z": "\\n"}}
	checkExpansion(t, `\*x\*y`, false, a.look, "\\\na\nb")
	checkExpansion(t, `\*z`, true, a.look, `\n`)
	checkAsked(t, `\w'\*y'`, false, a.answers, "", question{'*', "y", 0}, question{'w', "a\nb", 0})
}

// P4.1: \w with its text.
func TestWidths(t *testing.T) {
	n := question{'n', "x", 0}
	checkAsked(t, `\w''`, false, nil, "", question{'w', "", 0})
	checkAsked(t, `a\w'b c'd`, false, nil, "ad", question{'w', "b c", 0})
	checkAsked(t, `\w'a\w"b\nx"\nx'\nx`, false, map[string]string{"wb": "1", "wa12": "3", "nx": "2", "wb2": "1"}, "32", n, question{'w', "b2", 0}, n, question{'w', "a12", 0}, n)
	checkAsked(t, `\w'\\\e\fB\.'`, false, nil, "", question{'w', `\\\e\fB\.`, 0})
	// The text is cut out as it stands, and is expanded by itself.
	checkAsked(t, `\w'\nx'`, false, nil, "", n, question{'w', "", 0})
	checkAsked(t, `\w'\n'x'`, false, nil, `x'`, question{'w', `\n`, 0})
	checkAsked(t, `\w'\'x'`, false, nil, `x'`, question{'w', `\`, 0})
	checkAsked(t, `\w(\n(xy(z`, false, nil, `xy(z`, question{'w', `\n`, 0})
	checkAsked(t, `\wn\nxn`, false, nil, "xn", question{'w', `\`, 0})
	checkAsked(t, `\w'\*q'b'`, false, map[string]string{"*q": "a'"}, "b'", question{'*', "q", 0}, question{'w', "a'", 0})
	checkAsked(t, `\w'\*b'nx'`, false, map[string]string{"*b": `\`}, "nx'", question{'*', "b", 0}, question{'w', `\`, 0})
	// What is left out of the text does not reach further.
	checkAsked(t, `\w'a\"b\nx'c\nx`, false, nil, "c", question{'w', "a", 0}, n)
	checkAsked(t, `\w'\*c'\nx`, false, map[string]string{"*c": `d\"`}, "", question{'*', "c", 0}, question{'w', "d", 0}, n)
}

func TestQuotesOfWidths(t *testing.T) {
	for b := range 256 {
		quote := string([]byte{byte(b)})
		if b == '\n' {
			continue
		}
		s := `\w` + quote + `1 2` + quote + "|"
		switch b {
		case '\\':
			checkAsked(t, `\w\1 2\|`, false, nil, `\w\1 2\|`)
		case '1':
			checkAsked(t, s, false, nil, " 21|", question{'w', "", 0})
		case '2':
			checkAsked(t, s, false, nil, "2|", question{'w', "1 ", 0})
		case ' ':
			checkAsked(t, s, false, nil, "2 |", question{'w', "1", 0})
		default:
			checkAsked(t, s, false, nil, "|", question{'w', "1 2", 0})
		}
		if !strings.Contains(`\nx-`, quote) {
			checkAsked(t, `\w`+quote+`\nx-`, false, map[string]string{"nx": "3"}, `\w`+quote+"3-", question{'n', "x", 0})
		}
	}
	checkAsked(t, `\w\nxb`, false, nil, `\wb`, question{'n', "x", 0})
	checkAsked(t, `\w\\nx`, false, nil, `\w\\nx`)
	checkAsked(t, `\*q3\*q`, false, map[string]string{"*q": "\\w\n"}, "\\w\n3\\w\n", question{'*', "q", 0}, question{'*', "q", 0})
	checkAsked(t, `\*q3\*e`, false, map[string]string{"*q": "\\w\n", "*e": "\n"}, "\\w\n3\n", question{'*', "q", 0}, question{'*', "e", 0})
}

// P4.1: not in copy mode, what stands for nothing stays.
func TestOrdinaryMode(t *testing.T) {
	checkChanges(t, false, []change{
		{"", ""}, {"a", "a"}, {`\\`, `\\`}, {`\\nx`, `\\nx`}, {`\\\nx`, `\\<n0x>`}, {`\\\\nx`, `\\\\nx`}, {`\e`, `\e`}, {`\enx`, `\enx`}, {`\.`, `\.`}, {`\.nx`, `\.nx`}, {`\fB\nx`, `\fB<n0x>`}, {`\'\(em\-\ \&`, `\'\(em\-\ \&`}, {`\(\nx`, `\(<n0x>`},
		{`\N`, `\N`}, {`\W'a'`, `\W'a'`}, {"\\\x00\\nx", "\\\x00<n0x>"}, {"\\\xff\\nx", "\\\xff<n0x>"}, {`\ \nx`, `\ <n0x>`},
		{`a\"b`, "a"}, {`\"`, ""}, {`\"\nx`, ""}, {`\\"b`, `\\"b`}, {`\\\"b`, `\\`}, {`a "b`, `a "b`}, {`\nx\"\nx`, "<n0x>"}, {`\n"\"a`, `<n0">`}, {`\n\"a`, `<n0/>"a`},
		{`\n(xy\*(xy\$(xy`, "<n0xy><*0xy><$0xy>"}, {`\n[x]\*[xyz]\$[1]`, "<n0x><*0xyz><$01>"}, {`\n]x`, "<n0]>x"}, {`\n(])x`, "<n0])>x"}, {`\n[[]x`, "<n0[>x"}, {`\n[(]`, "<n0(>"}, {`\n)x`, "<n0)>x"}, {`\n\nx`, "<n0/>nx"}, {`\n\\nx`, "<n0/><n0x>"}, {`\*"x`, `<*0">x`},
	})
}

func TestMalformedEscapes(t *testing.T) {
	anywhere := []string{`\n `, `\n(x `, `\n( x`, `\n((x`, `\n(x(`, `\n([]`, `\n(+x`, `\n(x-`, `\n[`, `\n[]`, `\n[]]`, `\n[x`, `\n[x y]`, `\n[ ]`, `\n[xxxxxxxxxxxxxxxxxxxxx]`, `\n+ `, `\n-(x `, `\* `, `\*(x `, `\*[`, `\*+`, `\$ `, `\$[]`, `\$-`, `\w'`, `\w'a`, `\w'a"`}
	atTheEnd := []string{`\`, `a\`, `\\\`, `\n`, `\n+`, `\n-`, `\n(`, `\n(x`, `\*`, `\*(`, `\*(x`, `\$`, `\$(`, `\w`, `\w\`, `\w\a\`}
	for _, copyMode := range []bool{false, true} {
		for _, s := range anywhere {
			checkAsked(t, s, copyMode, nil, s)
			// The \ alone is put out, and what follows is read.
			checkAsked(t, s+` \ny`, copyMode, nil, s+" ", question{'n', "y", 0})
		}
		for _, s := range atTheEnd {
			want := s
			if copyMode {
				want = strings.ReplaceAll(s, `\\`, `\`)
			}
			checkAsked(t, s, copyMode, nil, want)
			checkAsked(t, `\ny`+s, copyMode, nil, want, question{'n', "y", 0})
		}
	}
	checkChanges(t, false, []change{
		{`\n(\nx`, "<n0/n>x"}, {`\n(x\ny`, `<n0x/>ny`}, {`\n( \ny`, `\n( <n0y>`}, {`\n[ \ny`, `\n[ <n0y>`}, {`\n[x\ny`, `\n[x<n0y>`}, {`\n[\ny]`, `<n0/ny>`}, {`\n[ \ny]`, `\n[ <n0y>]`}, {`\w'\nx`, `\w'<n0x>`}, {`\w'\\nx`, `\w'\\nx`}, {`\w'a\"'`, `<w0a>`}, {`\w'a\"`, `\w'a`}, {`\w"a\"`, `<w0a/>`}, {`\n \nx`, `\n <n0x>`}, {`\* \nx`, `\* <n0x>`}, {`\*+\nx`, `\*+<n0x>`},
	})
}

// P4.1: copy mode takes one level of protection away.
func TestCopyMode(t *testing.T) {
	checkChanges(t, true, []change{
		{"", ""}, {"a", "a"}, {`\\`, `\`}, {`\\nx`, `\nx`}, {`\\\nx`, `\<n0x>`}, {`\\\\nx`, `\\nx`}, {`\\\\`, `\\`}, {`\\\`, `\\`}, {`\\.`, `\.`}, {`\\"a`, `\"a`}, {`\\\"a`, `\`}, {`\\w'\nx'`, `\w'<n0x>'`}, {`\\\\\\`, `\\\`},
		{`\.`, "."}, {`\.\.`, ".."}, {`\.nx`, ".nx"}, {`a\.b`, "a.b"}, {`\..`, ".."}, {`\\.\.`, `\..`},
		{`\e`, `\e`}, {`\e\\`, `\e\`}, {`\fB`, `\fB`}, {`\fB\"c`, `\fB`}, {`\(em\-\ `, `\(em\-\ `}, {`\(\nx`, `\(<n0x>`}, {"\\\x00\\\\", "\\\x00\\"}, {"\\\xff\\nx", "\\\xff<n0x>"},
		{`\"`, ""}, {`a\"b`, "a"}, {`\nx\*(ab\$[1]\n+x\n-x`, "<n0x><*0ab><$01><n1x><n-1x>"},
		{`\w'a'`, `\w'a'`}, {`\w'\nx'`, `\w'<n0x>'`}, {`\w'a\"b'`, `\w'a`}, {`\w\nx`, `\w<n0x>`}, {`\w\\n`, `\w\n`}, {`\w'\\nx'`, `\w'\nx'`}, {`\w'\n'x'`, `\w'<n0'>x'`}, {`\w\.`, `\w.`}, {`\wn\nxn`, `\wn<n0x>n`}, {`\w\w''`, `\w\w''`}, {`\w`, `\w`}, {`\w'`, `\w'`},
	})
	answers := map[string]string{"*a": `\\nx`, "*b": `\.`, "*c": `\\`, "*d": `\w'\nx'`, "nx": `\\`, "*e": `\`}
	n := question{'n', "x", 0}
	checkAsked(t, `\*a`, true, answers, `\nx`, question{'*', "a", 0})
	checkAsked(t, `\*b\nx`, true, answers, `.\\`, question{'*', "b", 0}, n)
	checkAsked(t, `\*cnx`, true, answers, `\nx`, question{'*', "c", 0})
	checkAsked(t, `\*d`, true, answers, `\w'\\'`, question{'*', "d", 0}, n)
	checkAsked(t, `\*enx`, true, answers, `\\`, question{'*', "e", 0}, n)
}
