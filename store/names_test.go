package store_test

import (
	"math"
	"strings"
	"testing"

	"frisket/api"
	"frisket/store"
)

// P3.3: what is done to one name is done to the other, whichever it is.
func TestAliasesTellTheSame(t *testing.T) {
	s := store.New()
	s.Define("a", "one")
	wants(t, "Alias", s.Alias("b", "a"), api.OK)
	wants(t, "Alias of an alias", s.Alias("c", "b"), api.OK)
	names := []string{"a", "b", "c"}
	for i, name := range names {
		same := func(what string, err api.Errno, check func(name string)) {
			t.Helper()
			wants(t, what+" "+name, err, api.OK)
			check(names[i])
			check(names[(i+1)%3])
			check(names[(i+2)%3])
		}
		isString := func(want string) func(string) { return func(name string) { t.Helper(); checkString(t, s, name, want) } }
		isMacro := func(want ...string) func(string) {
			return func(name string) { t.Helper(); checkMacro(t, s, name, lines(want...)) }
		}
		same("Define", s.Define(name, "text"), isString("text"))
		same("Append", s.Append(name, "!"), isString("text!"))
		same("Chop", s.Chop(name), isString("text"))
		same("Part", s.Part(name, 1, 2), isString("ex"))
		same("Macro", s.Macro(name, lines("p", "q")), isMacro("p", "q"))
		same("Add", s.Add(name, lines("r")), isMacro("p", "q", "r"))
		same("Chop", s.Chop(name), isMacro("p", "q"))
		same("Part", s.Part(name, 1, 1), isMacro("q"))
		same("Append to a macro", s.Append(name, "text"), isString("text"))
		same("Add to a string", s.Add(name, lines("s")), isMacro("s"))
	}
	checkNames(t, s, names...)
}

func TestAliasInPlaceOfAnEntry(t *testing.T) {
	s := store.New()
	s.Define("a", "one")
	s.Macro("b", lines("two"))
	s.Alias("c", "b")
	wants(t, "Alias", s.Alias("b", "a"), api.OK)
	checkString(t, s, "b", "one")
	checkMacro(t, s, "c", lines("two"))
	s.Define("b", "three")
	checkString(t, s, "a", "three")
	checkMacro(t, s, "c", lines("two"))
	wants(t, "Alias that it is", s.Alias("b", "a"), api.OK)
	wants(t, "Alias the other way", s.Alias("a", "b"), api.OK)
	s.Append("a", "!")
	checkString(t, s, "a", "three!")
	checkString(t, s, "b", "three!")
	checkNames(t, s, "a", "b", "c")
}

func TestAliasOfItself(t *testing.T) {
	s := store.New()
	wants(t, "Alias, not there", s.Alias("a", "a"), api.ErrName)
	checkNames(t, s)
	s.Define("a", "one")
	wants(t, "Alias, there", s.Alias("a", "a"), api.ErrLoop)
	checkString(t, s, "a", "one")
	checkNames(t, s, "a")
}

// P3.3: an entry stays for its other names, and what is fresh is apart from it.
func TestRemove(t *testing.T) {
	s := store.New()
	s.Define("a", "one")
	s.Alias("b", "a")
	s.Alias("c", "a")
	wants(t, "Remove", s.Remove("a"), api.OK)
	wants(t, "Remove again", s.Remove("a"), api.OK)
	checkNone(t, s, "a")
	checkNames(t, s, "b", "c")
	s.Define("a", "new")
	s.Append("b", "!")
	checkString(t, s, "a", "new")
	checkString(t, s, "b", "one!")
	checkString(t, s, "c", "one!")
	wants(t, "Remove", s.Remove("b"), api.OK)
	wants(t, "Remove", s.Remove("c"), api.OK)
	checkNone(t, s, "c")
	s.Append("c", "fresh")
	checkString(t, s, "c", "fresh")
	s.Macro("m", lines("x"))
	wants(t, "Remove of a macro", s.Remove("m"), api.OK)
	s.Add("m", lines("y"))
	checkMacro(t, s, "m", lines("y"))
}

func TestRename(t *testing.T) {
	s := store.New()
	s.Define("a", "one")
	s.Macro("m", lines("x", "y"))
	wants(t, "Rename to itself", s.Rename("a", "a"), api.OK)
	checkString(t, s, "a", "one")
	wants(t, "Rename", s.Rename("a", "z"), api.OK)
	checkNone(t, s, "a")
	checkString(t, s, "z", "one")
	wants(t, "Rename in place of another", s.Rename("m", "z"), api.OK)
	checkMacro(t, s, "z", lines("x", "y"))
	checkNames(t, s, "z")
	wants(t, "Rename of one that is gone", s.Rename("m", "z"), api.ErrName)
	wants(t, "Define", s.Define("m", "new"), api.OK)
	checkMacro(t, s, "z", lines("x", "y"))
}

// Rename moves one name alone: the entry is still that of the others.
func TestRenameOfAnAlias(t *testing.T) {
	s := store.New()
	s.Define("a", "one")
	s.Alias("b", "a")
	wants(t, "Rename", s.Rename("a", "z"), api.OK)
	checkNone(t, s, "a")
	s.Define("a", "new")
	s.Append("b", "!")
	checkString(t, s, "a", "new")
	checkString(t, s, "b", "one!")
	checkString(t, s, "z", "one!")
	wants(t, "Rename to itself", s.Rename("b", "b"), api.OK)
	s.Append("b", "?")
	checkString(t, s, "z", "one!?")
	wants(t, "Rename in place of a name of the same entry", s.Rename("b", "z"), api.OK)
	checkString(t, s, "z", "one!?")
	checkNames(t, s, "a", "z")
	s.Alias("y", "z")
	wants(t, "Rename in place of an alias", s.Rename("a", "y"), api.OK)
	s.Append("y", "er")
	checkString(t, s, "y", "newer")
	checkString(t, s, "z", "one!?")
	checkNames(t, s, "y", "z")
}

func TestChop(t *testing.T) {
	s := store.New()
	s.Define("a", "xé")
	for _, want := range []string{"x\xc3", "x", "", "", ""} {
		wants(t, "Chop", s.Chop("a"), api.OK)
		checkString(t, s, "a", want)
	}
	s.Append("a", "new")
	checkString(t, s, "a", "new")
	s.Macro("m", lines("x", "", "y"))
	for _, want := range [][]api.Line{lines("x", ""), lines("x"), nil, nil} {
		wants(t, "Chop", s.Chop("m"), api.OK)
		checkMacro(t, s, "m", want)
	}
	s.Add("m", lines("new"))
	checkMacro(t, s, "m", lines("new"))
}

func TestPart(t *testing.T) {
	for _, k := range []struct {
		from, to int
		want     string
	}{
		{1, -2, "bcd"}, {0, -1, "abcde"}, {0, 0, "a"}, {4, 4, "e"}, {-1, -1, "e"}, {-5, -5, "a"}, {2, 3, "cd"}, {-3, -2, "cd"}, {-4, 2, "bc"},
		{3, 1, "bcd"}, {-2, 1, "bcd"}, {-1, 0, "abcde"}, {4, -4, "bcde"}, {-2, -4, "bcd"}, {2, -5, "abc"},
		{3, 9, "de"}, {9, 3, "de"}, {-9, 1, "ab"}, {1, -9, "ab"}, {-9, 9, "abcde"}, {9, -9, "abcde"}, {-9, -5, "a"}, {-9, -1, "abcde"},
		{5, 5, ""}, {5, 9, ""}, {9, 5, ""}, {-6, -6, ""}, {-9, -6, ""}, {-6, -9, ""}, {4, 5, "e"}, {0, -6, "a"}, {-6, 0, "a"},
		{0, math.MaxInt, "abcde"}, {math.MinInt, math.MaxInt, "abcde"}, {math.MaxInt, math.MinInt, "abcde"}, {math.MaxInt, math.MaxInt, ""}, {math.MinInt, math.MinInt, ""}, {math.MinInt, 1, "ab"}, {math.MaxInt, 3, "de"}, {math.MinInt, -5, "a"},
	} {
		s := store.New()
		s.Define("a", "abcde")
		s.Macro("m", lines("a", "b", "c", "d", "e"))
		wants(t, "Part of a string", s.Part("a", k.from, k.to), api.OK)
		wants(t, "Part of a macro", s.Part("m", k.from, k.to), api.OK)
		checkString(t, s, "a", k.want)
		checkMacro(t, s, "m", lines(strings.Split(k.want, "")...))
		s.Append("a", "!")
		s.Add("m", lines("!"))
		checkString(t, s, "a", k.want+"!")
		checkMacro(t, s, "m", lines(strings.Split(k.want+"!", "")...))
	}
}

// TestPartOfAnything says of each byte by itself whether it stays.
func TestPartOfAnything(t *testing.T) {
	for n := range 5 {
		whole := "abcd"[:n]
		for from := -7; from <= 7; from++ {
			for to := -7; to <= 7; to++ {
				first, last := from, to
				if first < 0 {
					first += n
				}
				if last < 0 {
					last += n
				}
				want := ""
				for i := range n {
					if first <= i && i <= last || last <= i && i <= first {
						want += whole[i : i+1]
					}
				}
				s := store.New()
				s.Define("a", whole)
				s.Macro("m", lines(strings.Split(whole, "")...))
				s.Part("a", from, to)
				s.Part("m", from, to)
				checkString(t, s, "a", want)
				checkMacro(t, s, "m", lines(strings.Split(want, "")...))
			}
		}
	}
}

// P3.4.
func TestAppendOfParts(t *testing.T) {
	whole := strings.Repeat("a b\\\xff\x00é", 40)
	for size := 1; size <= len(whole); size++ {
		s := store.New()
		s.Define("whole", whole)
		rest := whole
		for rest != "" {
			n := min(size, len(rest))
			wants(t, "Append", s.Append("parts", rest[:n]), api.OK)
			wants(t, "Append of none", s.Append("parts", ""), api.OK)
			rest = rest[n:]
		}
		text, _ := s.Text("whole")
		checkString(t, s, "parts", text)
	}
}

// P3.4: a copy is apart, and aliases within it hold.
func TestCopiesAreApart(t *testing.T) {
	s := store.New()
	s.Define("a", "one")
	s.Alias("b", "a")
	s.Macro("m", made())
	s.Alias("n", "m")
	k := s.Copy()
	checkNames(t, k, "a", "b", "m", "n")
	s.Append("a", "!")
	s.Add("m", lines("behind"))
	s.Remove("n")
	s.Define("c", "new")
	checkString(t, k, "a", "one")
	checkString(t, k, "b", "one")
	checkMacro(t, k, "m", made())
	checkMacro(t, k, "n", made())
	checkNone(t, k, "c")
	k.Append("b", "?")
	k.Add("n", lines("other"))
	k.Rename("a", "z")
	checkString(t, k, "z", "one?")
	checkMacro(t, k, "m", append(made(), lines("other")...))
	checkString(t, s, "a", "one!")
	checkString(t, s, "b", "one!")
	checkMacro(t, s, "m", append(made(), lines("behind")...))
	checkNames(t, s, "a", "b", "c", "m")
	checkNames(t, k, "b", "m", "n", "z")
	empty := store.New().Copy()
	wants(t, "Define in a copy of an empty store", empty.Define("x", "y"), api.OK)
	checkString(t, empty, "x", "y")
}

// A copy of a macro that has room to grow does not grow into the other's room.
func TestCopiesGrowApart(t *testing.T) {
	s := store.New()
	for _, line := range many(5) {
		s.Add("m", []api.Line{line})
	}
	k := s.Copy()
	s.Add("m", lines("s"))
	k.Add("m", lines("k"))
	checkMacro(t, s, "m", append(many(5), lines("s")...))
	checkMacro(t, k, "m", append(many(5), lines("k")...))
}
