package source_test

import (
	"math"
	"reflect"
	"slices"
	"strconv"
	"strings"
	"testing"

	"frisket/api"
	"frisket/source"
)

var (
	longName = strings.Repeat("n", 100)
	longText = strings.Repeat("t", 2000)

	goodNames = []string{"f", longName, " ", "]", "a\nb", "\x00\xff", "é"}
	badNames  = []string{"", longName + "n", strings.Repeat("n", 100000)}

	badTexts = []string{longText + "t", longText + "t\n", "a\n" + longText + "t\nb", "a\n" + longText + "t", strings.Repeat("\n", 20001), strings.Repeat("\n", 20000) + "a", strings.Repeat("\n", 20000) + longText + "t", strings.Repeat("\n", 1000000)}

	badLines = [][]api.Line{
		{{Text: "x\ny"}}, {{Text: longText + "t"}}, {{Text: "x", Up: 1}}, {{Down: -1}}, {{Boxes: make([]api.Box, 1)}}, {{Made: true, Text: "x"}}, {{Made: true, Up: 1000001}}, {{Made: true, Down: math.MinInt}}, {{Made: true, Boxes: make([]api.Box, 2001)}},
		append(many(5), api.Line{Text: "\n"}), append(many(20000), api.Line{}), many(20001), many(100000),
	}
)

// lines makes a line of each text.
func lines(texts ...string) []api.Line {
	var l []api.Line
	for _, text := range texts {
		l = append(l, api.Line{Text: text})
	}
	return l
}

// many makes n lines, numbered from 0.
func many(n int) []api.Line {
	l := make([]api.Line, n)
	for i := range l {
		l[i].Text = strconv.Itoa(i)
	}
	return l
}

func wants(t *testing.T, what string, got, want api.Errno) {
	t.Helper()
	if got != want {
		t.Errorf("%s: error %d, want %d", what, got, want)
	}
}

// takes takes the next lines, having peeked at each, and wants these texts.
func takes(t *testing.T, s *source.Stack, want ...string) {
	t.Helper()
	for _, text := range want {
		depth := s.Depth()
		ahead, e1 := s.Peek()
		if s.Depth() != depth {
			t.Errorf("Peek left %d frames of %d", s.Depth(), depth)
		}
		l, e2 := s.Next()
		if !reflect.DeepEqual(l, api.Line{Text: text}) || e1 != api.OK || e2 != api.OK || !reflect.DeepEqual(ahead, l) {
			t.Errorf("line %v, error %d; peeked at %v, error %d; want %q", l, e2, ahead, e1, text)
		}
	}
}

// ends wants no line to be left, and by that no frame.
func ends(t *testing.T, s *source.Stack) {
	t.Helper()
	for range 2 {
		depth := s.Depth()
		ahead, e1 := s.Peek()
		if s.Depth() != depth {
			t.Errorf("Peek left %d frames of %d", s.Depth(), depth)
		}
		l, e2 := s.Next()
		if !reflect.DeepEqual(l, api.Line{}) || !reflect.DeepEqual(ahead, api.Line{}) || e1 != api.ErrNone || e2 != api.ErrNone {
			t.Errorf("line %v, error %d; peeked at %v, error %d; want none", l, e2, ahead, e1)
		}
		is(t, s, 0, "", 0)
	}
}

// is asks all that a stack tells about itself.
func is(t *testing.T, s *source.Stack, depth int, name string, line int, args ...string) {
	t.Helper()
	if s.Depth() != depth || s.Name() != name || s.Line() != line || !slices.Equal(s.Args(), args) {
		t.Errorf("depth %d, name %.30q, line %d, arguments %q; want %d, %.30q, %d, %q", s.Depth(), s.Name(), s.Line(), s.Args(), depth, name, line, args)
	}
}

// story is all that comes of a stack, told by a copy.
func story(s *source.Stack) string {
	var b strings.Builder
	k := s.Copy()
	for range 1000 {
		b.WriteString(strconv.Itoa(k.Depth()) + " " + k.Name() + " " + strconv.Itoa(k.Line()) + " " + strings.Join(k.Args(), ",") + "\n")
		l, err := k.Next()
		if err != api.OK {
			return b.String()
		}
		b.WriteString(l.Text + "\n")
	}
	return "no end"
}

// started is a stack with a frame of each kind, of which none is at its end.
func started() *source.Stack {
	s := source.New()
	s.File("f", "one\ntwo\nthree\n")
	s.Next()
	s.Macro("m", lines("a", "b"), []string{"x", "y", "z"})
	s.Next()
	s.Wait(lines("v", "w"))
	s.Next()
	return s
}

// full is a stack of 50 macros of one line.
func full() *source.Stack {
	s := source.New()
	for i := range 50 {
		s.Macro("m"+strconv.Itoa(i), lines(strconv.Itoa(i)), []string{strconv.Itoa(i)})
	}
	return s
}

// P5.1: a nil stack and a zero one have all calls fail, or tell nothing.
func TestStacksThatAreNone(t *testing.T) {
	for _, s := range []*source.Stack{nil, {}} {
		for range 2 {
			l1, e1 := s.Next()
			l2, e2 := s.Peek()
			for i, err := range []api.Errno{e1, e2, s.File("f", "a"), s.File("", "a"), s.Macro("m", lines("a"), nil), s.Macro("m", badLines[0], nil), s.Wait(lines("a")), s.Wait(many(20001)), s.Return(false), s.Return(true), s.Instead("f", "a"), s.Instead("", ""), s.Shift(0), s.Shift(101)} {
				wants(t, "none, call "+strconv.Itoa(i), err, api.ErrArg)
			}
			if !reflect.DeepEqual(l1, api.Line{}) || !reflect.DeepEqual(l2, api.Line{}) || s.Copy() != nil {
				t.Error("lines", l1, l2, "or a copy")
			}
			is(t, s, 0, "", 0)
		}
	}
}

// P5.1: arguments come ahead of ErrState and ErrLimit, and change nothing.
func TestArgumentsComeFirst(t *testing.T) {
	for where, s := range map[string]*source.Stack{"empty": source.New(), "started": started(), "full": full()} {
		before := story(s)
		for _, name := range badNames {
			for _, text := range append([]string{"", "a\nb"}, badTexts...) {
				wants(t, where+": File, bad name", s.File(name, text), api.ErrArg)
				wants(t, where+": Instead, bad name", s.Instead(name, text), api.ErrArg)
			}
			for _, l := range append([][]api.Line{nil, lines("a")}, badLines...) {
				wants(t, where+": Macro, bad name", s.Macro(name, l, []string{"x"}), api.ErrArg)
			}
		}
		for i, text := range badTexts {
			wants(t, where+": File, bad text "+strconv.Itoa(i), s.File("f", text), api.ErrArg)
			wants(t, where+": Instead, bad text "+strconv.Itoa(i), s.Instead("f", text), api.ErrArg)
		}
		for i, l := range badLines {
			wants(t, where+": Macro, bad lines "+strconv.Itoa(i), s.Macro("m", l, nil), api.ErrArg)
			wants(t, where+": Wait, bad lines "+strconv.Itoa(i), s.Wait(l), api.ErrArg)
		}
		for _, n := range []int{-1, 101, math.MinInt, math.MaxInt} {
			wants(t, where+": Shift", s.Shift(n), api.ErrArg)
		}
		if after := story(s); after != before {
			t.Errorf("%s: %q became %q", where, before, after)
		}
	}
}

func TestArgumentsAtTheirLimits(t *testing.T) {
	for _, name := range goodNames {
		s := source.New()
		wants(t, "File", s.File(name, "a"), api.OK)
		is(t, s, 1, name, 0)
		wants(t, "Macro", s.Macro(name, lines("b"), nil), api.OK)
		is(t, s, 2, name, 0)
		wants(t, "Instead", s.Instead(name, longText+"\n"+longText), api.OK)
		is(t, s, 1, name, 0)
		takes(t, s, longText, longText)
		ends(t, s)
	}
	for text, last := range map[string]string{"last": "last", "last\n": "last", "\n": ""} {
		s := source.New()
		wants(t, "File of 20000 lines", s.File("f", strings.Repeat("t\n", 19999)+text), api.OK)
		takes(t, s, slices.Repeat([]string{"t"}, 19999)...)
		takes(t, s, last)
		ends(t, s)
	}
	s := source.New()
	wants(t, "Macro of 20000 lines", s.Macro("m", many(20000), nil), api.OK)
	wants(t, "Wait of 20000 lines", s.Wait(many(20000)), api.OK)
	for i := range 40000 {
		takes(t, s, strconv.Itoa(i%20000))
	}
	ends(t, s)
}

// P5.1: what has no macro or no file is ErrState, in a full stack too.
func TestStates(t *testing.T) {
	s := source.New()
	for _, all := range []bool{false, true} {
		wants(t, "Return of nothing", s.Return(all), api.ErrState)
	}
	wants(t, "Shift of nothing", s.Shift(0), api.ErrState)
	wants(t, "Instead of nothing", s.Instead("g", "new"), api.ErrState)
	for range 25 {
		s.File("f", "a")
		s.Wait(lines("w"))
	}
	before := story(s)
	wants(t, "Return", s.Return(false), api.ErrState)
	wants(t, "Return of all", s.Return(true), api.ErrState)
	wants(t, "Shift", s.Shift(100), api.ErrState)
	if story(s) != before {
		t.Error("changed:", story(s))
	}
	s = full()
	before = story(s)
	wants(t, "Instead of no file", s.Instead("g", "new"), api.ErrState)
	if story(s) != before {
		t.Error("changed:", story(s))
	}
}

// P5.2: 50 frames, of any kinds, also of those that are at their end, except what waited.
func TestFiftyFrames(t *testing.T) {
	s := full()
	before := story(s)
	wants(t, "File", s.File("f", "a"), api.ErrLimit)
	wants(t, "Macro", s.Macro("m", nil, nil), api.ErrLimit)
	wants(t, "Wait", s.Wait(nil), api.ErrLimit)
	if story(s) != before {
		t.Error("changed:", story(s))
	}
	takes(t, s, "49")
	wants(t, "a push on a macro at its end", s.Wait(lines("w")), api.ErrLimit)
	is(t, s, 50, "m49", 0, "49")
	takes(t, s, "48")
	is(t, s, 49, "m48", 0, "48")
	wants(t, "Wait", s.Wait(lines("w")), api.OK)
	is(t, s, 50, "m48", 0, "48")
	wants(t, "a push on what waits", s.Wait(lines("x")), api.ErrLimit)
	takes(t, s, "w")
	wants(t, "a push on what waited", s.Wait(lines("x")), api.OK)
	is(t, s, 50, "m48", 0, "48")
	takes(t, s, "x")
	wants(t, "a push on what waited", s.File("f", "a\nb"), api.OK)
	is(t, s, 50, "f", 0, "48")
	wants(t, "a push on a file", s.Macro("m", nil, nil), api.ErrLimit)
	takes(t, s, "a", "b")
	wants(t, "a push on a file at its end", s.Macro("m", nil, nil), api.ErrLimit)
	wants(t, "Instead in a full stack", s.Instead("g", "new"), api.OK)
	is(t, s, 50, "g", 0, "48")
	takes(t, s, "new", "47")
	is(t, s, 48, "m47", 0, "47")
}

// P5.2: a file's lines, and those of what is put on top of it.
func TestLinesComeInOrder(t *testing.T) {
	s := source.New()
	wants(t, "File", s.File("f", "one\n\ntwo"), api.OK)
	is(t, s, 1, "f", 0)
	takes(t, s, "one")
	is(t, s, 1, "f", 1)
	wants(t, "Macro", s.Macro("m", lines("a"), []string{"x"}), api.OK)
	is(t, s, 2, "m", 1, "x")
	takes(t, s, "a")
	is(t, s, 2, "m", 1, "x")
	takes(t, s, "")
	is(t, s, 1, "f", 2)
	wants(t, "Wait", s.Wait(lines("v", "w")), api.OK)
	takes(t, s, "v")
	wants(t, "File", s.File("g", "three\n"), api.OK)
	is(t, s, 3, "g", 0)
	takes(t, s, "three")
	is(t, s, 3, "g", 1)
	takes(t, s, "w")
	is(t, s, 2, "f", 2)
	takes(t, s, "two")
	is(t, s, 1, "f", 3)
	ends(t, s)
	wants(t, "File behind the end", s.File("h", "new"), api.OK)
	takes(t, s, "new")
	ends(t, s)
}

// P5.2: frames at their end stay until the next line is asked for; of those that waited the next push takes them.
func TestFramesAtTheirEnd(t *testing.T) {
	s := source.New()
	s.File("empty", "")
	s.Macro("none", nil, []string{"x"})
	s.Wait(nil)
	is(t, s, 3, "none", 0, "x")
	s.Wait(lines("w"))
	is(t, s, 3, "none", 0, "x")
	s.Wait([]api.Line{})
	is(t, s, 4, "none", 0, "x")
	s.File("f", "a")
	is(t, s, 4, "f", 0, "x")
	s.Macro("m", nil, nil)
	s.File("g", "")
	is(t, s, 6, "g", 0)
	takes(t, s, "a")
	is(t, s, 4, "f", 1, "x")
	takes(t, s, "w")
	is(t, s, 3, "none", 0, "x")
	if _, err := s.Peek(); err != api.ErrNone {
		t.Error("peeked behind the end: error", err)
	}
	is(t, s, 3, "none", 0, "x")
	s.Macro("m", lines("b"), nil)
	is(t, s, 3, "m", 0)
	wants(t, "Return", s.Return(false), api.OK)
	wants(t, "Return of a macro at its end", s.Return(false), api.OK)
	is(t, s, 1, "empty", 0)
	ends(t, s)
}

func TestMadeLines(t *testing.T) {
	for _, l := range [][]api.Line{
		{{Made: true}, {Made: true, Up: -1000000, Down: 2, Boxes: []api.Box{{Kind: 3, Width: 7}}}, {Text: longText}},
		{{Made: true, Up: 1000000, Boxes: make([]api.Box, 2000)}, {Made: true, Down: -1000000, Boxes: []api.Box{{Kind: 99, Name: "\n", N: []int{1, 2}}}}},
	} {
		s := source.New()
		wants(t, "Macro", s.Macro("m", l, nil), api.OK)
		wants(t, "Wait", s.Wait(l), api.OK)
		for _, want := range append(slices.Clone(l), l...) {
			ahead, _ := s.Peek()
			got, err := s.Next()
			if !reflect.DeepEqual(got, want) || !reflect.DeepEqual(ahead, want) || err != api.OK {
				t.Errorf("line %v, error %d, peeked at %v; want %v", got, err, ahead, want)
			}
		}
		ends(t, s)
	}
}

// pile makes a stack: file f, wait, macro m, file g, macro n, wait, each of two lines.
func pile() *source.Stack {
	s := source.New()
	s.File("f", "f1\nf2")
	s.Wait(lines("v1", "v2"))
	s.Macro("m", lines("m1", "m2"), []string{"x"})
	s.File("g", "g1\ng2")
	s.Macro("n", lines("n1", "n2"), []string{"y"})
	s.Wait(lines("w1", "w2"))
	return s
}

func TestReturn(t *testing.T) {
	s := pile()
	is(t, s, 6, "n", 0, "y")
	wants(t, "Return", s.Return(false), api.OK)
	is(t, s, 4, "g", 0, "x")
	takes(t, s, "g1")
	wants(t, "Return from a file in a macro", s.Return(false), api.OK)
	is(t, s, 2, "f", 0)
	wants(t, "Return", s.Return(false), api.ErrState)
	takes(t, s, "v1", "v2", "f1", "f2")
	ends(t, s)
	s = pile()
	wants(t, "Return of all", s.Return(true), api.OK)
	is(t, s, 2, "f", 0)
	wants(t, "Return of all", s.Return(true), api.ErrState)
	takes(t, s, "v1", "v2", "f1", "f2")
	ends(t, s)
	s = full()
	wants(t, "Return of 50 macros", s.Return(true), api.OK)
	ends(t, s)
	s.Macro("m", lines("a"), nil)
	takes(t, s, "a")
	wants(t, "Return of all, of a macro at its end", s.Return(true), api.OK)
	is(t, s, 0, "", 0)
}

func TestInstead(t *testing.T) {
	s := pile()
	takes(t, s, "w1")
	wants(t, "Instead", s.Instead("h", "h1\nh2\n"), api.OK)
	is(t, s, 4, "h", 0, "x")
	takes(t, s, "h1", "h2")
	is(t, s, 4, "h", 2, "x")
	wants(t, "Instead of a file at its end", s.Instead("i", ""), api.OK)
	is(t, s, 4, "i", 0, "x")
	takes(t, s, "m1")
	is(t, s, 3, "m", 0, "x")
	wants(t, "Instead of a file below a macro", s.Instead("j", "j1"), api.OK)
	is(t, s, 1, "j", 0)
	takes(t, s, "j1")
	ends(t, s)
	wants(t, "Instead of none", s.Instead("k", "k1"), api.ErrState)
	s.Wait(lines("w"))
	wants(t, "Instead of what waits", s.Instead("k", "k1"), api.ErrState)
	takes(t, s, "w")
	ends(t, s)
}

func TestArguments(t *testing.T) {
	s := source.New()
	for _, args := range [][]string{nil, {}, {""}, {"x"}, {"a b", "\n", longText + longText, "\x00\xff", ""}, slices.Repeat([]string{"x"}, 1000)} {
		wants(t, "Macro", s.Macro("m", lines("a"), args), api.OK)
		is(t, s, s.Depth(), "m", 0, args...)
		s.File("f", "b")
		s.Wait(nil)
		is(t, s, s.Depth(), "f", 0, args...)
	}
}

func TestShift(t *testing.T) {
	args := slices.Collect(func(yield func(string) bool) {
		for i := 0; i < 250 && yield(strconv.Itoa(i)); i++ {
		}
	})
	for n := range 101 {
		s := source.New()
		s.Macro("below", lines("a"), args[:3])
		s.Macro("m", nil, args[:n/2*2])
		s.File("f", "b")
		for left := args[:n/2*2]; ; left = left[min(n, len(left)):] {
			is(t, s, 3, "f", 0, left...)
			wants(t, "Shift", s.Shift(n), api.OK)
			if len(left) == 0 || n == 0 {
				break
			}
		}
		takes(t, s, "b", "a")
		is(t, s, 1, "below", 0, args[:3]...)
	}
	s := source.New()
	s.Macro("m", nil, args)
	for _, left := range [][]string{args[100:], args[200:], nil, nil} {
		wants(t, "Shift", s.Shift(100), api.OK)
		is(t, s, 1, "m", 0, left...)
	}
}

func TestLinesOfTexts(t *testing.T) {
	for text, want := range map[string][]string{
		"": nil, "\n": {""}, "\n\n": {"", ""}, "a": {"a"}, "a\n": {"a"}, "a\n\n": {"a", ""}, "\na": {"", "a"}, "\na\n": {"", "a"}, "a\nb": {"a", "b"}, "a\n\nb\n": {"a", "", "b"}, "a\r\nb\x00": {"a\r", "b\x00"}, " \n ": {" ", " "},
		longText + longText: {longText + longText}, strings.Repeat("\n", 30000): make([]string, 30000),
	} {
		if got := source.Lines(text); !slices.Equal(got, want) {
			t.Errorf("%.30q: %.90q, want %.90q", text, got, want)
		}
		s := source.New()
		if s.File("f", text) == api.OK {
			takes(t, s, want...)
			ends(t, s)
		} else if len(text) < 2000 {
			t.Errorf("%q is no file", text)
		}
	}
}
