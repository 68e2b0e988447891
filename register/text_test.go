package register_test

import (
	"math"
	"strings"
	"testing"

	"frisket/api"
	"frisket/register"
)

const nearlyForty = "mmmmmmmmmmmmmmmmmmmmmmmmmmmmmmmmmmmmmmm" // 39 times m

// P2.2.
func TestWrite(t *testing.T) {
	for _, k := range []struct {
		n    int
		form string
		want string
	}{
		{7, "001", "007"}, {7, "0", "7"}, {7, "9", "7"}, {7, "00", "07"}, {7, "123456789", "000000007"}, {0, "0", "0"}, {0, "5", "0"}, {0, "00", "00"}, {0, "111", "000"},
		{12, "0", "12"}, {12, "00", "12"}, {12, "000", "012"}, {1234, "01", "1234"}, {1000000000, "0", "1000000000"}, {1000000000, "000000000", "1000000000"}, {999999999, "000000000", "999999999"}, {99999999, "000000000", "099999999"},
		{-7, "0", "-7"}, {-7, "00", "-07"}, {-7, "001", "-007"}, {-1234, "00", "-1234"}, {-1000000000, "0", "-1000000000"},
		{0, "i", "0"}, {0, "I", "0"}, {1, "i", "i"}, {2, "i", "ii"}, {3, "I", "III"}, {4, "i", "iv"}, {5, "i", "v"}, {6, "i", "vi"}, {8, "i", "viii"}, {9, "i", "ix"}, {10, "i", "x"}, {14, "i", "xiv"}, {19, "i", "xix"},
		{40, "i", "xl"}, {49, "i", "xlix"}, {50, "i", "l"}, {90, "i", "xc"}, {99, "i", "xcix"}, {100, "i", "c"}, {400, "i", "cd"}, {444, "i", "cdxliv"}, {500, "i", "d"}, {888, "I", "DCCCLXXXVIII"}, {900, "i", "cm"}, {999, "i", "cmxcix"},
		{1000, "i", "m"}, {1994, "I", "MCMXCIV"}, {4000, "i", "mmmm"}, {2026, "i", "mmxxvi"}, {5000, "I", "MMMMM"}, {-4, "i", "-iv"}, {-9, "I", "-IX"},
		{39000, "i", nearlyForty}, {39999, "i", nearlyForty + "cmxcix"}, {39999, "I", strings.ToUpper(nearlyForty) + "CMXCIX"}, {-39999, "i", "-" + nearlyForty + "cmxcix"},
		{40000, "i", "40000"}, {40000, "I", "40000"}, {40001, "i", "40001"}, {-40000, "i", "-40000"}, {1000000000, "I", "1000000000"},
		{0, "a", "0"}, {0, "A", "0"}, {1, "a", "a"}, {2, "A", "B"}, {25, "a", "y"}, {26, "a", "z"}, {27, "a", "aa"}, {28, "a", "ab"}, {52, "a", "az"}, {53, "a", "ba"}, {701, "a", "zy"}, {702, "a", "zz"}, {702, "A", "ZZ"}, {703, "a", "aaa"}, {704, "A", "AAB"},
		{18278, "a", "zzz"}, {18279, "a", "aaaa"}, {-1, "a", "-a"}, {-28, "A", "-AB"}, {1000000000, "a", "cfdgsxl"}, {-1000000000, "A", "-CFDGSXL"},
	} {
		if s, err := register.Write(k.n, k.form); s != k.want || err != api.OK {
			t.Errorf("%d by %s: %q, error %d; want %q", k.n, k.form, s, err, k.want)
		}
		b := register.New()
		b.Set("x", k.n)
		b.Format("x", k.form)
		checkState(t, b, "x", state{k.n, k.want, k.form, true})
	}
}

// P2.1: a format comes ahead of a number.
func TestWriteRefuses(t *testing.T) {
	for _, form := range badForms {
		for _, n := range append([]int{0, 1, -1}, badNumbers...) {
			if s, err := register.Write(n, form); s != "" || err != api.ErrForm {
				t.Errorf("%d by %q: %q, error %d", n, form, s, err)
			}
		}
	}
	for _, form := range goodForms {
		for _, n := range badNumbers {
			if s, err := register.Write(n, form); s != "" || err != api.ErrRange {
				t.Errorf("%d by %s: %q, error %d", n, form, s, err)
			}
		}
		for _, n := range []int{api.MaxInt, -api.MaxInt} {
			if s, err := register.Write(n, form); s == "" || err != api.OK {
				t.Errorf("%d by %s: %q, error %d", n, form, s, err)
			}
		}
	}
}

// P2.2.
func TestRomanRefuses(t *testing.T) {
	for _, s := range []string{
		"", "0", "-i", "-I", "40000", "7", " i", "i ", "i\x00", "\xff", "q", "iq", "qi", "+i",
		"iiii", "vv", "viiii", "ic", "il", "im", "vx", "xd", "xm", "ld", "iix", "ixi", "ixv", "iviv", "xcx", "xcxc", "cmc", "cmd", "cdc", "dd", "ll", "lc", "dm", "xxxx", "cccc", "ivi", "mim", "vl", "lxl", "dcd", "cdcd",
		"Xi", "xI", "mM", "Mm", "iX", "McMXCIV",
		"ı", "İ", "Ⅳ", "ⅰ", "ｉ", "vİ",
		nearlyForty + "m", strings.ToUpper(nearlyForty) + "M", nearlyForty + "mi", strings.Repeat("m", 100000),
	} {
		if n, err := register.Roman(s); n != 0 || err != api.ErrForm {
			t.Errorf("%q: %d, error %d", s, n, err)
		}
	}
}

// P2.3: Roman of Write is the number, and nothing else than Write's texts is read.
func TestRomanOfWrite(t *testing.T) {
	for n := 1; n <= 39999; n++ {
		small, _ := register.Write(n, "i")
		great, _ := register.Write(n, "I")
		if great != strings.ToUpper(small) {
			t.Fatalf("%d: %s and %s", n, small, great)
		}
		for _, s := range []string{small, great} {
			if back, err := register.Roman(s); back != n || err != api.OK {
				t.Fatalf("%d is %s, which is %d, error %d", n, s, back, err)
			}
		}
	}
}

func TestRomanOfAnyText(t *testing.T) {
	for _, alphabet := range []string{"ivxlcdm", "IVXLCDM", "iI"} {
		texts := []string{""}
		for range 5 {
			var longer []string
			for _, s := range texts {
				for _, letter := range []byte(alphabet) {
					longer = append(longer, s+string(rune(letter)))
				}
			}
			texts = longer
			for _, s := range texts {
				checkRoman(t, s)
			}
		}
	}
}

func checkRoman(t *testing.T, s string) {
	t.Helper()
	n, err := register.Roman(s)
	if err != api.OK {
		if n != 0 || err != api.ErrForm {
			t.Fatalf("%s: %d, error %d", s, n, err)
		}
		return
	}
	small, _ := register.Write(n, "i")
	great, _ := register.Write(n, "I")
	if s != small && s != great {
		t.Fatalf("%s is read as %d, which is %s", s, n, small)
	}
}

// P2.3: a numbering without gaps. next counts on in letters by itself.
func next(letters []byte) []byte {
	for i := len(letters) - 1; i >= 0; i-- {
		if letters[i] < 'z' {
			letters[i]++
			return letters
		}
		letters[i] = 'a'
	}
	return append([]byte("a"), letters...)
}

func TestLettersHaveNoGaps(t *testing.T) {
	var letters []byte
	for n := 1; n <= 500000; n++ {
		letters = next(letters)
		if s, err := register.Write(n, "a"); s != string(letters) || err != api.OK {
			t.Fatalf("%d: %s, error %d; want %s", n, s, err, letters)
		}
	}
	for _, form := range []string{"a", "A"} {
		seen := map[string]int{}
		for n := -20000; n <= 20000; n++ {
			s, _ := register.Write(n, form)
			if other, met := seen[s]; met {
				t.Fatalf("%d and %d are both %s", other, n, s)
			}
			seen[s] = n
		}
	}
}

// number reads letters by itself, so that Write is checked where counting up to it takes too long.
func number(letters string) int {
	n := 0
	for _, letter := range []byte(letters) {
		n = n*26 + int(letter-'a') + 1
	}
	return n
}

func TestLettersOfAnyNumber(t *testing.T) {
	for n := 1; n <= api.MaxInt; n += 1 + n/300 {
		s, err := register.Write(n, "a")
		if err != api.OK || number(s) != n || strings.Trim(s, "abcdefghijklmnopqrstuvwxyz") != "" {
			t.Fatalf("%d: %q, error %d", n, s, err)
		}
		great, _ := register.Write(-n, "A")
		if great != "-"+strings.ToUpper(s) {
			t.Fatalf("%d: %q", -n, great)
		}
	}
	if s, err := register.Write(math.MinInt, "a"); s != "" || err != api.ErrRange {
		t.Error(s, err)
	}
}
