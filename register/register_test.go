package register_test

import (
	"math"
	"slices"
	"strconv"
	"strings"
	"testing"

	"frisket/api"
	"frisket/register"
)

var longName = strings.Repeat("n", 20)

var goodNames = []string{"x", "!", "~", "[", "\\", "a.b", ".$", "%", "\"q\"", longName}

var badNames = []string{"", longName + "n", "a b", " ", "a]", "]", "a\n", "\x00", "\x1f", "\x7f", "\x80", "\xff", "é"}

var goodForms = []string{"0", "1", "9", "00", "001", "123", "987654321", "000000000", "i", "I", "a", "A"}

var badForms = []string{"", "0000000000", "1234567890", "z", "ii", "aa", "iI", "i0", "0i", "0a0", "01 ", " 01", "-1", "+1", "1.5", "０", "İ", "ı", "\x00", "\xff"}

var badNumbers = []int{1000000001, -1000000001, math.MaxInt, math.MinInt, 1 << 32}

// state is all that a book tells of one register.
type state struct {
	value int
	text  string
	form  string
	has   bool
}

var nothing = state{0, "0", "0", false}

func checkState(t *testing.T, b *register.Book, name string, want state) {
	t.Helper()
	value, e1 := b.Value(name)
	text, e2 := b.Text(name)
	form, e3 := b.FormatOf(name)
	got := state{value, text, form, b.Has(name)}
	if got != want || e1 != api.OK || e2 != api.OK || e3 != api.OK {
		t.Errorf("%q: %v, errors %d, %d, %d; want %v", name, got, e1, e2, e3, want)
	}
}

func checkMove(t *testing.T, b *register.Book, name string, up bool, want int, err api.Errno) {
	t.Helper()
	if n, e := b.Move(name, up); n != want || e != err {
		t.Errorf("Move %q, %v: %d, error %d; want %d, error %d", name, up, n, e, want, err)
	}
}

func checkNames(t *testing.T, b *register.Book, want ...string) {
	t.Helper()
	if names := b.Names(); !slices.Equal(names, want) {
		t.Errorf("names %q, want %q", names, want)
	}
}

func wants(t *testing.T, what string, got, want api.Errno) {
	t.Helper()
	if got != want {
		t.Errorf("%s: error %d, want %d", what, got, want)
	}
}

// calls are all the methods that return an error, with arguments that are right but for the name.
func calls(b *register.Book, name string) map[string]api.Errno {
	_, value := b.Value(name)
	_, text := b.Text(name)
	_, up := b.Move(name, true)
	_, down := b.Move(name, false)
	_, form := b.FormatOf(name)
	return map[string]api.Errno{
		"Set": b.Set(name, 1), "Step": b.Step(name, 1), "Format": b.Format(name, "i"), "Value": value, "Text": text, "Move up": up, "Move down": down,
		"FormatOf": form, "Rename from": b.Rename(name, "other"), "Rename to": b.Rename("there", name), "Remove": b.Remove(name),
	}
}

// full makes a book of 500 registers, r0 to r499.
func full(t *testing.T) *register.Book {
	t.Helper()
	b := register.New()
	for i := range 500 {
		if err := b.Set("r"+strconv.Itoa(i), i); err != api.OK {
			t.Fatalf("register %d: error %d", i, err)
		}
	}
	return b
}

// P2.1: a nil book, and a zero one, come ahead of all other errors.
func TestBooksThatAreNone(t *testing.T) {
	for _, b := range []*register.Book{nil, {}} {
		for _, name := range []string{"x", "", "a]"} {
			for what, err := range calls(b, name) {
				wants(t, what+" "+name, err, api.ErrArg)
			}
			wants(t, "Set", b.Set(name, math.MaxInt), api.ErrArg)
			wants(t, "Step", b.Step(name, math.MinInt), api.ErrArg)
			wants(t, "Format", b.Format(name, "z"), api.ErrArg)
			if b.Has(name) {
				t.Error("Has", name)
			}
			if s, _ := b.Text(name); s != "" {
				t.Error("Text", s)
			}
			if s, _ := b.FormatOf(name); s != "" {
				t.Error("FormatOf", s)
			}
		}
		if names := b.Names(); len(names) != 0 || b.Copy() != nil {
			t.Error("names", names, "or a copy")
		}
	}
}

// P2.1: names come behind the book, and ahead of formats, numbers and room.
func TestNames(t *testing.T) {
	for _, name := range goodNames {
		b := register.New()
		b.Set("there", 7)
		for what, err := range calls(b, name) {
			wants(t, what+" "+name, err, api.OK)
		}
		wants(t, "Set "+name, b.Set(name, 3), api.OK)
		checkState(t, b, name, state{3, "3", "0", true})
		wants(t, "Rename "+name, b.Rename(name, "there"), api.OK)
		wants(t, "Rename to "+name, b.Rename("there", name), api.OK)
		checkState(t, b, name, state{3, "3", "0", true})
	}
	for _, name := range badNames {
		b := full(t)
		b.Rename("r0", "there")
		for what, err := range calls(b, name) {
			wants(t, what+" "+strconv.Quote(name), err, api.ErrName)
		}
		for _, n := range badNumbers {
			wants(t, "Set", b.Set(name, n), api.ErrName)
			wants(t, "Step", b.Step(name, n), api.ErrName)
		}
		wants(t, "Format", b.Format(name, "z"), api.ErrName)
		text, _ := b.Text(name)
		form, _ := b.FormatOf(name)
		if b.Has(name) || text != "" || form != "" || len(b.Names()) != 500 {
			t.Errorf("%q: has %v, %q, %q, %d names", name, b.Has(name), text, form, len(b.Names()))
		}
		checkState(t, b, "there", state{0, "0", "0", true})
	}
}

// P2.1: formats and numbers come ahead of room, and change nothing.
func TestFormatsAndNumbersComeAheadOfRoom(t *testing.T) {
	b := full(t)
	for _, form := range badForms {
		wants(t, "Format by "+form, b.Format("fresh", form), api.ErrForm)
		wants(t, "Format by "+form, b.Format("r7", form), api.ErrForm)
	}
	for _, n := range badNumbers {
		wants(t, "Set", b.Set("fresh", n), api.ErrRange)
		wants(t, "Step", b.Step("fresh", n), api.ErrRange)
		wants(t, "Set", b.Set("r7", n), api.ErrRange)
		wants(t, "Step", b.Step("r7", n), api.ErrRange)
	}
	checkState(t, b, "fresh", nothing)
	checkState(t, b, "r7", state{7, "7", "0", true})
	checkMove(t, b, "r7", true, 7, api.OK)
}

func TestFullBooks(t *testing.T) {
	b := full(t)
	wants(t, "Set", b.Set("fresh", 1), api.ErrFull)
	wants(t, "Step", b.Step("fresh", 1), api.ErrFull)
	wants(t, "Format", b.Format("fresh", "i"), api.ErrFull)
	checkState(t, b, "fresh", nothing)
	checkMove(t, b, "fresh", true, 0, api.OK)
	if len(b.Names()) != 500 {
		t.Error(len(b.Names()), "names")
	}
	wants(t, "Set of r3", b.Set("r3", 4), api.OK)
	wants(t, "Step of r3", b.Step("r3", 5), api.OK)
	wants(t, "Format of r3", b.Format("r3", "a"), api.OK)
	checkMove(t, b, "r3", true, 9, api.OK)
	wants(t, "Rename", b.Rename("r3", "fresh"), api.OK)
	checkState(t, b, "fresh", state{9, "i", "a", true})
	wants(t, "Set of r3, again", b.Set("r3", 1), api.ErrFull)
	wants(t, "Set in a copy", b.Copy().Set("r3", 1), api.ErrFull)
	wants(t, "Remove", b.Remove("r9"), api.OK)
	wants(t, "Format of r3", b.Format("r3", "i"), api.OK)
	wants(t, "Step of r9", b.Step("r9", 1), api.ErrFull)
	wants(t, "Rename to another's", b.Rename("r3", "r4"), api.OK)
	wants(t, "Step of r9", b.Step("r9", 1), api.OK)
	wants(t, "Set of r3", b.Set("r3", 1), api.ErrFull)
}

// P2.2: whichever of Set, Step and Format comes first makes a register, with the rest as it is in a fresh one.
func TestRegistersAreMade(t *testing.T) {
	b := register.New()
	checkNames(t, b)
	wants(t, "Set", b.Set("v", -12), api.OK)
	wants(t, "Step", b.Step("s", 5), api.OK)
	wants(t, "Format", b.Format("f", "i"), api.OK)
	checkState(t, b, "v", state{-12, "-12", "0", true})
	checkState(t, b, "s", state{0, "0", "0", true})
	checkState(t, b, "f", state{0, "0", "i", true})
	checkNames(t, b, "f", "s", "v")
	checkMove(t, b, "v", true, -12, api.OK)
	checkMove(t, b, "s", true, 5, api.OK)
	checkMove(t, b, "f", false, 0, api.OK)
}

func TestChangesLeaveTheRest(t *testing.T) {
	b := register.New()
	b.Set("x", 5)
	b.Step("x", 3)
	b.Format("x", "001")
	checkState(t, b, "x", state{5, "005", "001", true})
	wants(t, "Set", b.Set("x", 14), api.OK)
	checkState(t, b, "x", state{14, "014", "001", true})
	checkMove(t, b, "x", true, 17, api.OK)
	wants(t, "Step", b.Step("x", -10), api.OK)
	checkState(t, b, "x", state{17, "017", "001", true})
	checkMove(t, b, "x", true, 7, api.OK)
	wants(t, "Format", b.Format("x", "A"), api.OK)
	checkState(t, b, "x", state{7, "G", "A", true})
	checkMove(t, b, "x", false, 17, api.OK)
}

func TestRegistersThatAreNotThere(t *testing.T) {
	b := register.New()
	checkState(t, b, "x", nothing)
	checkMove(t, b, "x", true, 0, api.OK)
	checkMove(t, b, "x", false, 0, api.OK)
	wants(t, "Remove", b.Remove("x"), api.OK)
	wants(t, "Rename", b.Rename("x", "y"), api.ErrName)
	wants(t, "Rename to itself", b.Rename("x", "x"), api.ErrName)
	checkState(t, b, "x", nothing)
	checkState(t, b, "y", nothing)
	checkNames(t, b)
}

func TestMoveWithinTheRange(t *testing.T) {
	const most = 1000000000
	for _, k := range []struct {
		value, step int
		up          bool
		want        int
		err         api.Errno
	}{
		{5, 3, true, 8, api.OK}, {5, 3, false, 2, api.OK}, {5, -3, true, 2, api.OK}, {5, -3, false, 8, api.OK}, {-5, 0, true, -5, api.OK},
		{0, most, true, most, api.OK}, {0, most, false, -most, api.OK}, {most - 1, 1, true, most, api.OK}, {1 - most, 1, false, -most, api.OK}, {most, most, false, 0, api.OK}, {most, -most, true, 0, api.OK}, {-most, most, true, 0, api.OK},
		{most, 1, true, 0, api.ErrRange}, {-most, 1, false, 0, api.ErrRange}, {most, -1, false, 0, api.ErrRange}, {-most, -1, true, 0, api.ErrRange}, {most, most, true, 0, api.ErrRange}, {-most, -most, true, 0, api.ErrRange}, {-most, most, false, 0, api.ErrRange},
	} {
		b := register.New()
		wants(t, "Set", b.Set("x", k.value), api.OK)
		wants(t, "Step", b.Step("x", k.step), api.OK)
		checkMove(t, b, "x", k.up, k.want, k.err)
		left := k.want
		if k.err != api.OK {
			left = k.value
		}
		checkState(t, b, "x", state{left, strconv.Itoa(left), "0", true})
	}
}

func TestFormatsAreKept(t *testing.T) {
	for _, form := range goodForms {
		b := register.New()
		wants(t, "Format by "+form, b.Format("x", form), api.OK)
		b.Set("x", 2026)
		want, err := register.Write(2026, form)
		wants(t, "Write by "+form, err, api.OK)
		checkState(t, b, "x", state{2026, want, form, true})
		for _, bad := range badForms {
			wants(t, "Format by "+bad, b.Format("x", bad), api.ErrForm)
		}
		checkState(t, b, "x", state{2026, want, form, true})
	}
}

func TestRemove(t *testing.T) {
	b := register.New()
	b.Set("x", 5)
	b.Step("x", 3)
	b.Format("x", "i")
	b.Set("y", 6)
	wants(t, "Remove", b.Remove("x"), api.OK)
	wants(t, "Remove again", b.Remove("x"), api.OK)
	checkState(t, b, "x", nothing)
	checkState(t, b, "y", state{6, "6", "0", true})
	checkNames(t, b, "y")
	wants(t, "Set", b.Set("x", 4), api.OK)
	checkState(t, b, "x", state{4, "4", "0", true})
	checkMove(t, b, "x", true, 4, api.OK)
}

func TestRename(t *testing.T) {
	b := register.New()
	b.Set("x", 5)
	b.Step("x", 3)
	b.Format("x", "i")
	b.Set("y", 6)
	b.Step("y", 100)
	wants(t, "Rename to itself", b.Rename("x", "x"), api.OK)
	checkState(t, b, "x", state{5, "v", "i", true})
	wants(t, "Rename", b.Rename("x", "y"), api.OK)
	checkState(t, b, "x", nothing)
	checkState(t, b, "y", state{5, "v", "i", true})
	checkMove(t, b, "y", true, 8, api.OK)
	checkNames(t, b, "y")
	wants(t, "Rename of none", b.Rename("x", "y"), api.ErrName)
	wants(t, "Rename of none to a bad name", b.Rename("x", "a]"), api.ErrName)
	wants(t, "Rename to a fresh name", b.Rename("y", "z"), api.OK)
	checkState(t, b, "z", state{8, "viii", "i", true})
	checkNames(t, b, "z")
}

func TestNamesAscend(t *testing.T) {
	b := register.New()
	for _, name := range []string{"b", "a", "ab", "B", "10", "9", "~", "!", "a"} {
		b.Set(name, 1)
	}
	want := []string{"!", "10", "9", "B", "a", "ab", "b", "~"}
	checkNames(t, b, want...)
	b.Names()[0] = "changed"
	checkNames(t, b, want...)
}

// P2.3: a copy is apart.
func TestCopiesAreApart(t *testing.T) {
	b := register.New()
	b.Set("x", 5)
	b.Step("x", 3)
	b.Format("x", "i")
	b.Set("y", 6)
	k := b.Copy()
	checkMove(t, b, "x", true, 8, api.OK)
	b.Format("x", "0")
	b.Step("x", 1)
	b.Remove("y")
	b.Set("z", 1)
	checkState(t, k, "x", state{5, "v", "i", true})
	checkNames(t, k, "x", "y")
	checkMove(t, k, "x", false, 2, api.OK)
	wants(t, "Rename", k.Rename("x", "w"), api.OK)
	checkState(t, b, "x", state{8, "8", "0", true})
	checkNames(t, b, "x", "z")
	empty := register.New().Copy()
	wants(t, "Set in a copy of an empty book", empty.Set("x", 1), api.OK)
	checkNames(t, empty, "x")
}
