package names_test

import (
	"strings"
	"testing"

	"frisket/names"
)

func check(t *testing.T, what, name string, got, want bool) {
	t.Helper()
	if got != want {
		t.Errorf("%s %q: %v, want %v", what, name, got, want)
	}
}

func TestNamesOfOneByte(t *testing.T) {
	for b := range 256 {
		visible := 33 <= b && b <= 126
		one := string([]byte{byte(b)})
		for _, name := range []string{one, one + "a", "a" + one, "a" + one + "a"} {
			check(t, "name", name, names.Valid(name), visible && b != ']')
			check(t, "glyph", name, names.Glyph(name), visible)
			check(t, "colour", name, names.Colour(name), visible)
		}
	}
}

func TestLengthsOfNames(t *testing.T) {
	for n := range 300 {
		name := strings.Repeat("n", n)
		check(t, "name", name, names.Valid(name), 1 <= n && n <= 20)
		check(t, "glyph", name, names.Glyph(name), 1 <= n && n <= 10)
		check(t, "colour", name, names.Colour(name), 1 <= n && n <= 20)
	}
}
