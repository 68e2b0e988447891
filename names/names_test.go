package names_test

import (
	"strings"
	"testing"

	"frisket/names"
)

func TestNamesOfOneByte(t *testing.T) {
	for b := range 256 {
		want := 33 <= b && b <= 126 && b != ']'
		one := string([]byte{byte(b)})
		for _, name := range []string{one, one + "a", "a" + one, "a" + one + "a"} {
			if names.Valid(name) != want {
				t.Errorf("%q: %v, want %v", name, !want, want)
			}
		}
	}
}

func TestLengthsOfNames(t *testing.T) {
	for n := range 300 {
		want := 1 <= n && n <= 20
		if names.Valid(strings.Repeat("n", n)) != want {
			t.Errorf("%d bytes: %v, want %v", n, !want, want)
		}
	}
}
