package store_test

import (
	"math"
	"reflect"
	"slices"
	"strconv"
	"strings"
	"testing"

	"frisket/api"
	"frisket/store"
)

var (
	longName = strings.Repeat("n", 20)
	longText = strings.Repeat("t", 2000)

	goodNames = []string{"x", "!", "~", "[", "\\", "a.b", longName}
	badNames  = []string{"", longName + "n", "a b", "a]", "]", "a\n", "\x00", "\x1f", "\x7f", "\x80", "é"}

	goodTexts = []string{"", "x", "a b", "\\n[x]", "\x00\t\r\xff", "é", longText}
	badTexts  = []string{"\n", "x\n", "x\ny", longText + "t", longText + "\n", strings.Repeat("t", 100000)}

	goodLines = []api.Line{
		{}, {Text: "x"}, {Text: longText}, {Text: "\xff\x00"}, {Made: true}, {Made: true, Up: 120, Down: 20}, {Made: true, Up: 1000000, Down: -1000000}, {Made: true, Up: -1000000, Down: 1000000},
		{Made: true, Boxes: []api.Box{{Kind: 99, Width: math.MinInt, Name: "no\nbox", N: []int{1, 2}}, {}}}, {Made: true, Boxes: make([]api.Box, 2000)}, {Boxes: []api.Box{}},
	}
	badLines = []api.Line{
		{Text: "x\ny"}, {Text: longText + "t"}, {Made: true, Text: "x"}, {Made: true, Text: longText + "t"}, {Made: true, Up: 1000001}, {Made: true, Up: -1000001}, {Made: true, Down: 1000001}, {Made: true, Down: -1000001}, {Made: true, Up: math.MinInt}, {Made: true, Down: math.MaxInt},
		{Made: true, Boxes: make([]api.Box, 2001)}, {Text: "x", Up: 1}, {Text: "x", Down: -1}, {Text: "x", Boxes: make([]api.Box, 1)}, {Up: 1}, {Down: 1}, {Boxes: make([]api.Box, 1)},
	}
)

// lines makes a line of each text.
func lines(texts ...string) []api.Line {
	var l []api.Line
	for _, text := range texts {
		l = append(l, api.Line{Text: text})
	}
	return l
}

// many makes n lines, numbered from 0.
func many(n int) []api.Line {
	var l []api.Line
	for i := range n {
		l = append(l, api.Line{Text: strconv.Itoa(i)})
	}
	return l
}

func wants(t *testing.T, what string, got, want api.Errno) {
	t.Helper()
	if got != want {
		t.Errorf("%s: error %d, want %d", what, got, want)
	}
}

func checkString(t *testing.T, s *store.Store, name, want string) {
	t.Helper()
	text, e1 := s.Text(name)
	l, e2 := s.Lines(name)
	n, e3 := s.Length(name)
	if text != want || n != len(want) || s.Kind(name) != 1 || e1 != api.OK || e2 != api.OK || e3 != api.OK {
		t.Errorf("%q: %q, length %d, kind %d, errors %d, %d, %d; want the string %q", name, text, n, s.Kind(name), e1, e2, e3, want)
	}
	if !reflect.DeepEqual(l, lines(want)) {
		t.Errorf("%q: lines %v, want one of %q", name, l, want)
	}
}

func sameLines(a, b []api.Line) bool {
	return slices.EqualFunc(a, b, func(x, y api.Line) bool {
		return x.Text == y.Text && x.Made == y.Made && x.Up == y.Up && x.Down == y.Down && slices.EqualFunc(x.Boxes, y.Boxes, sameBox)
	})
}

func sameBox(x, y api.Box) bool {
	same := slices.Equal(x.N, y.N)
	x.N, y.N = nil, nil
	return same && reflect.DeepEqual(x, y)
}

func checkMacro(t *testing.T, s *store.Store, name string, want []api.Line) {
	t.Helper()
	text, e1 := s.Text(name)
	l, e2 := s.Lines(name)
	n, e3 := s.Length(name)
	if text != "" || n != len(want) || s.Kind(name) != 2 || e1 != api.ErrName || e2 != api.OK || e3 != api.OK {
		t.Errorf("%q: %q, length %d, kind %d, errors %d, %d, %d; want a macro of %d lines", name, text, n, s.Kind(name), e1, e2, e3, len(want))
	}
	if !sameLines(l, want) {
		t.Errorf("%q: lines %v, want %v", name, l, want)
	}
}

// checkNone asks a name that is not there, or cannot be.
func checkNone(t *testing.T, s *store.Store, name string) {
	t.Helper()
	text, e1 := s.Text(name)
	l, e2 := s.Lines(name)
	n, e3 := s.Length(name)
	if text != "" || len(l) != 0 || n != 0 || s.Kind(name) != 0 || e1 != api.ErrName || e2 != api.ErrName || e3 != api.ErrName {
		t.Errorf("%q: %q, %v, length %d, kind %d, errors %d, %d, %d; want none", name, text, l, n, s.Kind(name), e1, e2, e3)
	}
}

func checkNames(t *testing.T, s *store.Store, want ...string) {
	t.Helper()
	if names := s.Names(); !slices.Equal(names, want) {
		t.Errorf("names %q, want %q", names, want)
	}
}

// full makes a store of 500 names: the strings s0 to s249, and the macros m0 to m249.
func full(t *testing.T) *store.Store {
	t.Helper()
	s := store.New()
	for i := range 250 {
		wants(t, "Define", s.Define("s"+strconv.Itoa(i), "text"), api.OK)
		wants(t, "Macro", s.Macro("m"+strconv.Itoa(i), lines("line")), api.OK)
	}
	return s
}

// P3.1: a nil store, and a zero one, come ahead of all other errors.
func TestStoresThatAreNone(t *testing.T) {
	for _, s := range []*store.Store{nil, {}} {
		for _, name := range []string{"x", "", "a]"} {
			text, e1 := s.Text(name)
			l, e2 := s.Lines(name)
			n, e3 := s.Length(name)
			for _, err := range []api.Errno{
				e1, e2, e3, s.Define(name, "x"), s.Define(name, "\n"), s.Append(name, "x"), s.Append(name, longText+"t"), s.Macro(name, nil), s.Macro(name, many(2001)), s.Add(name, nil), s.Add(name, badLines),
				s.Remove(name), s.Rename(name, "y"), s.Rename("y", name), s.Alias(name, "y"), s.Alias("y", name), s.Alias(name, name), s.Chop(name), s.Part(name, 1, 2),
			} {
				wants(t, "none, "+name, err, api.ErrArg)
			}
			if text != "" || len(l) != 0 || n != 0 || s.Kind(name) != 0 {
				t.Errorf("%q: %q, %v, %d, kind %d", name, text, l, n, s.Kind(name))
			}
		}
		if names := s.Names(); len(names) != 0 || s.Copy() != nil {
			t.Error("names", names, "or a copy")
		}
	}
}

// P3.1: texts and lines come ahead of names, limits and room, and change nothing.
func TestTextsAndLinesComeFirst(t *testing.T) {
	s := full(t)
	for _, name := range []string{"", "a]", "fresh", "s7", "m7"} {
		for _, text := range badTexts {
			wants(t, "Define "+name, s.Define(name, text), api.ErrArg)
			wants(t, "Append "+name, s.Append(name, text), api.ErrArg)
		}
		for i, line := range badLines {
			what := name + ", bad line " + strconv.Itoa(i)
			for _, l := range [][]api.Line{{line}, append(lines("x", "y"), line), append(many(2000), line), append([]api.Line{line}, many(3000)...)} {
				wants(t, "Macro "+what, s.Macro(name, l), api.ErrArg)
				wants(t, "Add "+what, s.Add(name, l), api.ErrArg)
			}
		}
	}
	checkString(t, s, "s7", "text")
	checkMacro(t, s, "m7", lines("line"))
	checkNone(t, s, "fresh")
	if len(s.Names()) != 500 {
		t.Error(len(s.Names()), "names")
	}
}

// P3.1: names come ahead of ErrLoop, limits and room.
func TestNames(t *testing.T) {
	for _, name := range badNames {
		s := full(t)
		for what, err := range map[string]api.Errno{
			"Define": s.Define(name, "x"), "Append": s.Append(name, "x"), "Macro": s.Macro(name, lines("x")), "Add": s.Add(name, lines("x")), "Macro of too many": s.Macro(name, many(2001)), "Add of too many": s.Add(name, many(2001)),
			"Remove": s.Remove(name), "Rename from": s.Rename(name, "fresh"), "Rename to": s.Rename("s0", name), "Rename to itself": s.Rename(name, name),
			"Alias": s.Alias(name, "s0"), "Alias of": s.Alias("fresh", name), "Alias of itself": s.Alias(name, name), "Alias of one not there": s.Alias(name, "fresh"), "Chop": s.Chop(name), "Part": s.Part(name, 0, 0),
		} {
			wants(t, what+" "+strconv.Quote(name), err, api.ErrName)
		}
		checkNone(t, s, name)
		checkNone(t, s, "fresh")
		checkString(t, s, "s0", "text")
	}
	s := store.New()
	for _, name := range goodNames {
		wants(t, "Define "+name, s.Define(name, name+"!"), api.OK)
	}
	for _, name := range goodNames {
		checkString(t, s, name, name+"!")
		wants(t, "Alias to it", s.Alias("there", name), api.OK)
		wants(t, "Remove", s.Remove(name), api.OK)
		wants(t, "Alias", s.Alias(name, "there"), api.OK)
		wants(t, "Rename to it", s.Rename("there", name), api.OK)
		checkString(t, s, name, name+"!")
	}
}

func TestNamesThatAreNotThere(t *testing.T) {
	s := store.New()
	s.Define("y", "kept")
	for what, err := range map[string]api.Errno{
		"Rename": s.Rename("x", "y"), "Rename to itself": s.Rename("x", "x"), "Alias": s.Alias("y", "x"), "Alias of itself": s.Alias("x", "x"), "Chop": s.Chop("x"), "Part": s.Part("x", 0, -1),
	} {
		wants(t, what, err, api.ErrName)
	}
	wants(t, "Remove", s.Remove("x"), api.OK)
	checkNone(t, s, "x")
	checkString(t, s, "y", "kept")
	checkNames(t, s, "y")
}

// P3.1: limits come ahead of room.
func TestLimits(t *testing.T) {
	s := full(t)
	wants(t, "Macro, fresh", s.Macro("fresh", many(2001)), api.ErrLimit)
	wants(t, "Add, fresh", s.Add("fresh", many(2001)), api.ErrLimit)
	wants(t, "Macro", s.Macro("m1", many(2001)), api.ErrLimit)
	wants(t, "Macro of a string", s.Macro("s1", many(2001)), api.ErrLimit)
	wants(t, "Add to a string", s.Add("s1", many(2001)), api.ErrLimit)
	wants(t, "Add", s.Add("m1", many(2000)), api.ErrLimit)
	wants(t, "Append", s.Append("s1", strings.Repeat("t", 1997)), api.ErrLimit)
	checkMacro(t, s, "m1", lines("line"))
	checkString(t, s, "s1", "text")
	checkNone(t, s, "fresh")
	wants(t, "Add", s.Add("m1", many(1999)), api.OK)
	checkMacro(t, s, "m1", append(lines("line"), many(1999)...))
	wants(t, "Add of one more", s.Add("m1", lines("x")), api.ErrLimit)
	wants(t, "Add of none", s.Add("m1", nil), api.OK)
	checkMacro(t, s, "m1", append(lines("line"), many(1999)...))
	wants(t, "Append", s.Append("s1", strings.Repeat("t", 1996)), api.OK)
	checkString(t, s, "s1", "text"+strings.Repeat("t", 1996))
	wants(t, "Append of one more", s.Append("s1", "x"), api.ErrLimit)
	wants(t, "Append of none", s.Append("s1", ""), api.OK)
	wants(t, "Macro", s.Macro("s1", many(2000)), api.OK)
	checkMacro(t, s, "s1", many(2000))
	wants(t, "Append to a macro", s.Append("s1", longText), api.OK)
	checkString(t, s, "s1", longText)
}

// P3.1: 500 counts names, not entries.
func TestFullStores(t *testing.T) {
	s := full(t)
	wants(t, "Alias to itself", s.Alias("s0", "s0"), api.ErrLoop)
	for what, err := range map[string]api.Errno{
		"Define": s.Define("fresh", "x"), "Append": s.Append("fresh", "x"), "Macro": s.Macro("fresh", many(2000)), "Add": s.Add("fresh", nil), "Alias": s.Alias("fresh", "s0"), "Define in a copy": s.Copy().Define("fresh", "x"),
	} {
		wants(t, what, err, api.ErrFull)
	}
	checkNone(t, s, "fresh")
	wants(t, "Alias", s.Alias("s1", "s0"), api.OK)
	wants(t, "Define", s.Define("fresh", "x"), api.ErrFull)
	wants(t, "Rename", s.Rename("s1", "fresh"), api.OK)
	checkString(t, s, "fresh", "text")
	wants(t, "Define", s.Define("s1", "x"), api.ErrFull)
	wants(t, "Remove", s.Remove("fresh"), api.OK)
	wants(t, "Alias", s.Alias("s1", "s0"), api.OK)
	wants(t, "Add", s.Add("fresh", nil), api.ErrFull)
	wants(t, "Rename to another's", s.Rename("s1", "s2"), api.OK)
	wants(t, "Append", s.Append("fresh", "x"), api.OK)
	wants(t, "Append", s.Append("s1", "x"), api.ErrFull)
	wants(t, "Define", s.Define("s3", "new"), api.OK)
	wants(t, "Macro", s.Macro("s4", lines("new")), api.OK)
	checkString(t, s, "s3", "new")
	checkMacro(t, s, "s4", lines("new"))
	if len(s.Names()) != 500 {
		t.Error(len(s.Names()), "names")
	}
}

// P3.2.
func TestStringsAreKept(t *testing.T) {
	s := store.New()
	for _, text := range goodTexts {
		wants(t, "Define", s.Define("x", text), api.OK)
		checkString(t, s, "x", text)
		wants(t, "Append", s.Append("y", text), api.OK)
		checkString(t, s, "y", text)
		wants(t, "Append of none", s.Append("y", ""), api.OK)
		checkString(t, s, "y", text)
		wants(t, "Remove", s.Remove("y"), api.OK)
	}
	s.Define("x", "ab")
	wants(t, "Append", s.Append("x", "cd"), api.OK)
	checkString(t, s, "x", "abcd")
	wants(t, "Define again", s.Define("x", "e"), api.OK)
	checkString(t, s, "x", "e")
	checkNames(t, s, "x")
}

func TestMacrosAreKept(t *testing.T) {
	s := store.New()
	for _, l := range append([][]api.Line{nil, {}, goodLines, many(2000)}, lines("a"), lines("a", "", "b")) {
		wants(t, "Macro", s.Macro("x", l), api.OK)
		checkMacro(t, s, "x", l)
		wants(t, "Add", s.Add("y", l), api.OK)
		checkMacro(t, s, "y", l)
		wants(t, "Add of none", s.Add("y", nil), api.OK)
		checkMacro(t, s, "y", l)
		wants(t, "Remove", s.Remove("y"), api.OK)
	}
	s.Macro("x", goodLines)
	wants(t, "Add", s.Add("x", many(7)), api.OK)
	wants(t, "Add", s.Add("x", goodLines), api.OK)
	checkMacro(t, s, "x", slices.Concat(goodLines, many(7), goodLines))
}

func TestTheOtherKindIsReplaced(t *testing.T) {
	s := store.New()
	s.Macro("x", lines("a", "b"))
	wants(t, "Append to a macro", s.Append("x", "c"), api.OK)
	checkString(t, s, "x", "c")
	wants(t, "Add to a string", s.Add("x", lines("d")), api.OK)
	checkMacro(t, s, "x", lines("d"))
	wants(t, "Define", s.Define("x", "e"), api.OK)
	checkString(t, s, "x", "e")
	wants(t, "Append", s.Append("x", "f"), api.OK)
	checkString(t, s, "x", "ef")
	wants(t, "Macro", s.Macro("x", nil), api.OK)
	checkMacro(t, s, "x", nil)
	wants(t, "Add", s.Add("x", lines("g")), api.OK)
	checkMacro(t, s, "x", lines("g"))
	checkNames(t, s, "x")
}

func TestNamesAscend(t *testing.T) {
	s := store.New()
	checkNames(t, s)
	for _, name := range []string{"b", "a", "ab", "B", "10", "a"} {
		s.Define(name, "1")
	}
	for _, name := range []string{"9", "~", "!"} {
		s.Macro(name, nil)
	}
	s.Alias("az", "b")
	want := []string{"!", "10", "9", "B", "a", "ab", "az", "b", "~"}
	checkNames(t, s, want...)
	s.Names()[0] = "changed"
	checkNames(t, s, want...)
}

// made is a line with all that a line may share with others.
func made() []api.Line {
	return []api.Line{{Made: true, Up: 1, Boxes: []api.Box{{Kind: 4, Name: "l", N: []int{1, 2}}}}}
}

func spoil(l []api.Line) {
	l[0].Boxes[0].N[0] = 99
	l[0].Boxes[0].Name = "spoilt"
	l[0].Up = 99
}

// Arguments and results are apart from what the store has, and from each other.
func TestMemoryIsApart(t *testing.T) {
	s := store.New()
	l := made()
	s.Macro("x", l)
	spoil(l)
	checkMacro(t, s, "x", made())
	l = made()
	s.Add("y", l)
	spoil(l)
	checkMacro(t, s, "y", made())
	l, _ = s.Lines("x")
	spoil(l)
	checkMacro(t, s, "x", made())
	twice := slices.Concat(l, l)
	s.Macro("x", twice)
	l, _ = s.Lines("x")
	l[0].Boxes[0].N[0] = 5
	if l[1].Boxes[0].N[0] != 99 {
		t.Error("two lines of a result share memory")
	}
	s.Part("x", 0, 0)
	l, _ = s.Lines("x")
	s.Add("x", lines("behind"))
	if !sameLines(append(l, lines("other")...)[:1], twice[:1]) {
		t.Error("a result changed")
	}
	checkMacro(t, s, "x", append(twice[:1:1], lines("behind")...))
}
