package measure_test

import (
	"math"
	"strconv"
	"strings"
	"testing"

	"frisket/api"
	"frisket/measure"
)

var usual = measure.Context{Size: 10, Vs: 120, Here: 50}

var badContexts = []measure.Context{
	{Size: -1}, {Size: 1000001}, {Vs: -1}, {Vs: 1000001}, {Here: -1000000001}, {Here: 1000000001},
}

var edgeContexts = []measure.Context{
	{}, {Size: 1000000, Vs: 1000000, Here: 1000000000}, {Here: -1000000000},
}

const badScales = "qU \x00M9.\xff"

type reading struct {
	text string
	want int
	err  api.Errno
}

type reader func(s string, scale byte, c measure.Context) (int, api.Errno)

func checkReadings(t *testing.T, read reader, scale byte, cases []reading) {
	t.Helper()
	for _, k := range cases {
		if n, err := read(k.text, scale, usual); n != k.want || err != k.err {
			t.Errorf("%q in %c: %d, error %d; want %d, error %d", k.text, scale, n, err, k.want, k.err)
		}
	}
}

// P1.1: an argument that is wrong comes ahead of all that is wrong in the text.
func TestWrongArgumentsComeFirst(t *testing.T) {
	for _, c := range badContexts {
		for _, s := range []string{"1", "", "x", "1/0", "999999999i"} {
			checkRefused(t, s, 'u', c)
		}
		if n, err := measure.Unit('u', c); n != 0 || err != api.ErrArg {
			t.Errorf("Unit with %v: %d, error %d", c, n, err)
		}
	}
	for _, scale := range []byte(badScales) {
		for _, s := range []string{"1u", "", "x", "1/0", "999999999i"} {
			checkRefused(t, s, scale, usual)
		}
	}
}

func checkRefused(t *testing.T, s string, scale byte, c measure.Context) {
	t.Helper()
	if n, err := measure.Number(s, scale, c); n != 0 || err != api.ErrArg {
		t.Errorf("Number %q in %q with %v: %d, error %d", s, scale, c, n, err)
	}
	if n, err := measure.Eval(s, scale, c); n != 0 || err != api.ErrArg {
		t.Errorf("Eval %q in %q with %v: %d, error %d", s, scale, c, n, err)
	}
	if n, used, err := measure.Prefix(s, scale, c); n != 0 || used != 0 || err != api.ErrArg {
		t.Errorf("Prefix %q in %q with %v: %d, %d, error %d", s, scale, c, n, used, err)
	}
	for _, text := range []string{s, "+" + s, "-" + s} {
		if n, err := measure.Change(7, text, scale, c); n != 0 || err != api.ErrArg {
			t.Errorf("Change %q in %q with %v: %d, error %d", text, scale, c, n, err)
		}
	}
}

func TestContextsAtTheirLimits(t *testing.T) {
	for _, c := range edgeContexts {
		if n, err := measure.Eval("7", 'u', c); n != 7 || err != api.OK {
			t.Errorf("Eval with %v: %d, error %d", c, n, err)
		}
		if n, err := measure.Unit('m', c); n != 10*c.Size || err != api.OK {
			t.Errorf("Unit with %v: %d, error %d", c, n, err)
		}
	}
}

// P1.1: behind the arguments, errors come from the front, when the reckoning comes to them.
func TestErrorsComeFromTheFront(t *testing.T) {
	checkReadings(t, measure.Eval, 'u', []reading{
		{"1/0+x", 0, api.ErrZero},
		{"1/0", 0, api.ErrZero},
		{"1/0x", 0, api.ErrZero},
		{"1%0)", 0, api.ErrZero},
		{"1/(2-2)*x", 0, api.ErrZero},
		{"(1/0", 0, api.ErrZero},
		{"1/(0", 0, api.ErrForm},
		{"x+1/0", 0, api.ErrForm},
		{"1/x/0", 0, api.ErrForm},
		{"1+x/0", 0, api.ErrForm},
		{"1/0+999999999i", 0, api.ErrZero},
		{"999999999i+1/0", 0, api.ErrRange},
		{"999999999i+x", 0, api.ErrRange},
		{"999999999i)", 0, api.ErrRange},
		{"x+999999999i", 0, api.ErrForm},
		{"500000000*2+1+x", 0, api.ErrRange},
		{"500000000*2+x", 0, api.ErrForm},
		{"500000000*2+1/0", 0, api.ErrRange},
		{"0*(999999999i)", 0, api.ErrRange},
		{"1/0*(" + strings.Repeat("(", 30), 0, api.ErrZero},
	})
	checkReadings(t, measure.Number, 'u', []reading{
		{"999999999i", 0, api.ErrRange},
		{"-999999999ix", 0, api.ErrRange},
		{"x999999999i", 0, api.ErrForm},
	})
}

func TestDepthOfBrackets(t *testing.T) {
	nested := func(depth int, inner string) string {
		return strings.Repeat("(", depth) + inner + strings.Repeat(")", depth)
	}
	checkReadings(t, measure.Eval, 'u', []reading{
		{nested(20, "5"), 5, api.OK},
		{nested(21, "5"), 0, api.ErrForm},
		{nested(20, "5") + "+" + nested(20, "6"), 11, api.OK},
		{nested(19, nested(1, "1")+"+"+nested(1, "2")), 3, api.OK},
		{nested(20, "!-+|"+"5"), 0, api.OK},
		{nested(21, "1/0"), 0, api.ErrForm},
		{nested(20, "1/0"), 0, api.ErrZero},
		{nested(10, "-"+nested(10, "3")), -3, api.OK},
		{nested(10, "-"+nested(11, "3")), 0, api.ErrForm},
	})
	if n, used, err := measure.Prefix("1+"+nested(21, "5"), 'u', usual); n != 1 || used != 1 || err != api.OK {
		t.Error("Prefix of too many brackets:", n, used, err)
	}
	if n, used, err := measure.Prefix("1+"+nested(20, "5"), 'u', usual); n != 6 || used != 43 || err != api.OK {
		t.Error("Prefix of 20 brackets:", n, used, err)
	}
	if n, used, err := measure.Prefix(nested(21, "5"), 'u', usual); n != 0 || used != 0 || err != api.ErrForm {
		t.Error("Prefix of too many brackets alone:", n, used, err)
	}
}

// P1.2.
func TestNumber(t *testing.T) {
	checkReadings(t, measure.Number, 'p', []reading{
		{"7", 70, api.OK}, {"+7", 70, api.OK}, {"-7", -70, api.OK}, {"7u", 7, api.OK}, {"-2P", -240, api.OK},
		{"1i", 720, api.OK}, {"1c", 283, api.OK}, {"3m", 300, api.OK}, {"3n", 150, api.OK}, {"2v", 240, api.OK},
		{"1.5", 15, api.OK}, {".5", 5, api.OK}, {".5i", 360, api.OK}, {"0.19", 1, api.OK}, {"-1.59", -15, api.OK},
		{"1.99u", 1, api.OK}, {"-1.99u", -1, api.OK}, {"-.9u", 0, api.OK},
		{"1.999999999i", 1439, api.OK}, {".000000001", 0, api.OK}, {"00012", 120, api.OK}, {"0.", 0, api.ErrForm},
		{"99999999.9", 999999999, api.OK}, {"100000000", 1000000000, api.OK}, {"-100000000", -1000000000, api.OK},
		{"100000000.1", 0, api.ErrRange}, {"100000001", 0, api.ErrRange}, {"-100000001", 0, api.ErrRange},
		{"100000000.09", 1000000000, api.OK},
		{"999999999u", 999999999, api.OK}, {"0000000001u", 0, api.ErrForm}, {"0123456789u", 0, api.ErrForm},
		{"1.1234567891u", 0, api.ErrForm}, {".1234567891u", 0, api.ErrForm},
		{"", 0, api.ErrForm}, {"+", 0, api.ErrForm}, {"-", 0, api.ErrForm}, {".", 0, api.ErrForm}, {"p", 0, api.ErrForm},
		{"1.", 0, api.ErrForm}, {"1.p", 0, api.ErrForm}, {"--1", 0, api.ErrForm}, {"+-1", 0, api.ErrForm}, {"!1", 0, api.ErrForm},
		{"|1", 0, api.ErrForm}, {"(1)", 0, api.ErrForm}, {"2p+1", 0, api.ErrForm}, {"1 ", 0, api.ErrForm}, {" 1", 0, api.ErrForm},
		{"- 1", 0, api.ErrForm}, {"1q", 0, api.ErrForm}, {"1pp", 0, api.ErrForm}, {"1 p", 0, api.ErrForm}, {"1.2.3", 0, api.ErrForm},
		{"1\x00", 0, api.ErrForm}, {"\xff", 0, api.ErrForm},
	})
}

// A number ends behind its ninth digit, in the default scale, and is reckoned ahead of the tenth.
func TestTenDigits(t *testing.T) {
	for _, read := range []reader{measure.Number, measure.Eval} {
		checkReadings(t, read, 'u', []reading{{"1234567890", 0, api.ErrForm}, {"1234567890u", 0, api.ErrForm}, {"-1234567890.5", 0, api.ErrForm}})
		checkReadings(t, read, 'p', []reading{{"1234567890u", 0, api.ErrRange}, {"0999999990u", 0, api.ErrForm}})
	}
}

func TestDefaultScales(t *testing.T) {
	for scale, want := range map[byte]int{'u': 1, 'p': 10, 'P': 120, 'i': 720, 'c': 283, 'm': 100, 'n': 50, 'v': 120} {
		if n, err := measure.Number("2", scale, usual); n != 2*want || err != api.OK {
			t.Errorf("Number in %c: %d, error %d", scale, n, err)
		}
		if n, err := measure.Eval("1+1u", scale, usual); n != want+1 || err != api.OK {
			t.Errorf("Eval in %c: %d, error %d", scale, n, err)
		}
		if n, used, err := measure.Prefix("1+1ux", scale, usual); n != want+1 || used != 4 || err != api.OK {
			t.Errorf("Prefix in %c: %d, %d, error %d", scale, n, used, err)
		}
		if n, err := measure.Change(1000, "-1", scale, usual); n != 1000-want || err != api.OK {
			t.Errorf("Change in %c: %d, error %d", scale, n, err)
		}
		if n, err := measure.Unit(scale, usual); n != want || err != api.OK {
			t.Errorf("Unit of %c: %d, error %d", scale, n, err)
		}
	}
}

func TestLargestNumbersAreExact(t *testing.T) {
	large := measure.Context{Size: 1000000, Vs: 1000000}
	for s, want := range map[string]int{
		"100m": 1000000000, ".999999999m": 9999999, "99.999999999m": 999999999, "999.999999999v": 999999999, "1000v": 1000000000, "200n": 1000000000,
	} {
		if n, err := measure.Eval(s, 'u', large); n != want || err != api.OK {
			t.Errorf("%s: %d, error %d", s, n, err)
		}
	}
	for _, s := range []string{"999999999m", "999999999.999999999m", "100.0000001m", "1000.000001v", "201n"} {
		if n, err := measure.Eval(s, 'u', large); n != 0 || err != api.ErrRange {
			t.Errorf("%s: %d, error %d", s, n, err)
		}
	}
}

func TestOperators(t *testing.T) {
	checkReadings(t, measure.Eval, 'u', []reading{
		{"1i+2p*3", 2220, api.OK}, {"1+2*3", 9, api.OK}, {"2*3+1", 7, api.OK}, {"10-2-3", 5, api.OK}, {"1+(2*3)", 7, api.OK},
		{"7/2", 3, api.OK}, {"-7/2", -3, api.OK}, {"7/-2", -3, api.OK}, {"-7/-2", 3, api.OK},
		{"7%3", 1, api.OK}, {"-7%3", -1, api.OK}, {"7%-3", 1, api.OK}, {"-7%-3", -1, api.OK}, {"6%3", 0, api.OK},
		{"3<4", 1, api.OK}, {"4<4", 0, api.OK}, {"5<4", 0, api.OK}, {"3>4", 0, api.OK}, {"4>4", 0, api.OK}, {"5>4", 1, api.OK},
		{"3<=4", 1, api.OK}, {"4<=4", 1, api.OK}, {"5<=4", 0, api.OK}, {"3>=4", 0, api.OK}, {"4>=4", 1, api.OK}, {"5>=4", 1, api.OK},
		{"3=4", 0, api.OK}, {"4=4", 1, api.OK}, {"3==4", 0, api.OK}, {"4==4", 1, api.OK},
		{"1&1", 1, api.OK}, {"1&0", 0, api.OK}, {"0&1", 0, api.OK}, {"-1&-1", 0, api.OK}, {"5&7", 1, api.OK}, {"1&-1", 0, api.OK},
		{"1:0", 1, api.OK}, {"0:1", 1, api.OK}, {"0:0", 0, api.OK}, {"-1:-1", 0, api.OK}, {"-1:9", 1, api.OK}, {"9:9", 1, api.OK},
		{"1<2<1", 0, api.OK}, {"5>1+1", 2, api.OK}, {"2=2&1", 1, api.OK}, {"0:1*5", 5, api.OK}, {"1=1=1", 1, api.OK}, {"2<=3*7", 7, api.OK},
		{"3<-4", 0, api.OK}, {"3=!0", 0, api.OK}, {"1==!0", 1, api.OK}, {"1=|51", 1, api.OK}, {"2*-3", -6, api.OK}, {"2--3", 5, api.OK}, {"2+-3", -1, api.OK},
	})
	checkReadings(t, measure.Eval, 'u', []reading{
		{"1===1", 0, api.ErrForm}, {"1<==1", 0, api.ErrForm}, {"1=<1", 0, api.ErrForm}, {"1=>1", 0, api.ErrForm}, {"1!=1", 0, api.ErrForm},
		{"1<>2", 0, api.ErrForm}, {"1*/2", 0, api.ErrForm}, {"*1", 0, api.ErrForm}, {"1+", 0, api.ErrForm}, {"1<=", 0, api.ErrForm},
		{"1&&1", 0, api.ErrForm}, {"1|2", 0, api.ErrForm}, {"1!2", 0, api.ErrForm}, {"1(2)", 0, api.ErrForm}, {"(1)2", 0, api.ErrForm},
		{"", 0, api.ErrForm}, {"-", 0, api.ErrForm}, {"!", 0, api.ErrForm}, {"()", 0, api.ErrForm}, {"(1", 0, api.ErrForm}, {"1)", 0, api.ErrForm},
		{"(1))", 0, api.ErrForm}, {")", 0, api.ErrForm}, {"(1+)", 0, api.ErrForm}, {"1.", 0, api.ErrForm}, {"(1.)", 0, api.ErrForm}, {"1.+1", 0, api.ErrForm},
		{"1,2", 0, api.ErrForm}, {"1;2", 0, api.ErrForm}, {"1\n", 0, api.ErrForm}, {"\xc3\xa9", 0, api.ErrForm},
	})
}

func TestSignsAhead(t *testing.T) {
	checkReadings(t, measure.Eval, 'u', []reading{
		{"-3u", -3, api.OK}, {"+3", 3, api.OK}, {"--3", 3, api.OK}, {"---3", -3, api.OK}, {"+-+3", -3, api.OK},
		{"!0", 1, api.OK}, {"!1", 0, api.OK}, {"!5", 0, api.OK}, {"!-5", 1, api.OK}, {"!!5", 1, api.OK}, {"-!0", -1, api.OK}, {"!!0", 0, api.OK},
		{"|100", 50, api.OK}, {"|50", 0, api.OK}, {"||100", 0, api.OK}, {"|-100", -150, api.OK}, {"-|100", -50, api.OK}, {"|!0", -49, api.OK},
		{"!|50", 1, api.OK}, {"!|51", 0, api.OK}, {"-(1+2)", -3, api.OK}, {"|(60+40)", 50, api.OK}, {"|100+1", 51, api.OK}, {"!0+5", 6, api.OK},
		{"-2+3", 1, api.OK}, {"-7%3", -1, api.OK}, {"-|(-(!(0)))", 51, api.OK},
	})
	many := strings.Repeat("-", 3000001)
	if n, err := measure.Eval(many+"5", 'u', usual); n != -5 || err != api.OK {
		t.Error("many signs:", n, err)
	}
	if n, used, err := measure.Prefix("1+"+many, 'u', usual); n != 1 || used != 1 || err != api.OK {
		t.Error("Prefix of many signs:", n, used, err)
	}
}

func TestBlanks(t *testing.T) {
	checkReadings(t, measure.Eval, 'u', []reading{
		{"(1 + 2)*3", 9, api.OK}, {"((1+1)*( 2 ))", 4, api.OK}, {"(   1   )", 1, api.OK}, {"( - - ! 0 )", 1, api.OK}, {"(1 <= 2)", 1, api.OK},
		{"( ( 1 ) + ( 2 ) )", 3, api.OK}, {"(2 *- 3)", -6, api.OK}, {"( | 60 )", 10, api.OK}, {"( - | ( 60 ) )", -10, api.OK},
		{"1 +2", 0, api.ErrForm}, {"1+ 2", 0, api.ErrForm}, {" 1", 0, api.ErrForm}, {"1 ", 0, api.ErrForm}, {"(1) ", 0, api.ErrForm}, {"(1) +2", 0, api.ErrForm},
		{"- 1", 0, api.ErrForm}, {"- (1)", 0, api.ErrForm}, {"(1 2)", 0, api.ErrForm}, {"(1 i)", 0, api.ErrForm}, {"(1 .5)", 0, api.ErrForm}, {"(1. 5)", 0, api.ErrForm},
		{"(1 < = 2)", 0, api.ErrForm}, {"( )", 0, api.ErrForm}, {"(1\t+2)", 0, api.ErrForm}, {"(1\n)", 0, api.ErrForm}, {"(1 ", 0, api.ErrForm},
	})
}

func TestValuesBetweenAreInRange(t *testing.T) {
	low := measure.Context{Here: -1000000000}
	high := measure.Context{Here: 1000000000}
	for _, k := range []struct {
		reading
		c measure.Context
	}{
		{reading{"500000000*2", 1000000000, api.OK}, usual}, {reading{"500000000*-2", -1000000000, api.OK}, usual},
		{reading{"500000000*2+1", 0, api.ErrRange}, usual}, {reading{"500000000*2+1-1", 0, api.ErrRange}, usual},
		{reading{"500000000*-2-1", 0, api.ErrRange}, usual}, {reading{"500000000*-2-1+1", 0, api.ErrRange}, usual},
		{reading{"500000000*3/3", 0, api.ErrRange}, usual}, {reading{"999999999*999999999", 0, api.ErrRange}, usual},
		{reading{"500000000*2*(500000000*2)", 0, api.ErrRange}, usual}, {reading{"500000000*2*(500000000*-2)", 0, api.ErrRange}, usual},
		{reading{"0*(500000000*3)", 0, api.ErrRange}, usual}, {reading{"!(500000000*3)", 0, api.ErrRange}, usual}, {reading{"1<(500000000*3)", 0, api.ErrRange}, usual},
		{reading{"|0", 1000000000, api.OK}, low}, {reading{"|1", 0, api.ErrRange}, low}, {reading{"|1-1", 0, api.ErrRange}, low}, {reading{"||0", 0, api.ErrRange}, low},
		{reading{"|0", -1000000000, api.OK}, high}, {reading{"|-1", 0, api.ErrRange}, high}, {reading{"-|0", 1000000000, api.OK}, high}, {reading{"!|-1", 0, api.ErrRange}, high},
	} {
		if n, err := measure.Eval(k.text, 'u', k.c); n != k.want || err != k.err {
			t.Errorf("%q with %v: %d, error %d; want %d, error %d", k.text, k.c, n, err, k.want, k.err)
		}
	}
}

func TestPrefix(t *testing.T) {
	for _, k := range []struct {
		text       string
		want, used int
		err        api.Errno
	}{
		{"10p+x", 100, 3, api.OK}, {"1+(2/0", 1, 1, api.OK}, {"1+2", 3, 3, api.OK}, {"1+2x", 3, 3, api.OK}, {"1+2+", 3, 3, api.OK}, {"1+2+*", 3, 3, api.OK},
		{"1.", 1, 1, api.OK}, {"1.p", 1, 1, api.OK}, {"1.5.", 1, 3, api.OK}, {"1.5.5", 1, 3, api.OK}, {"1+2.", 3, 3, api.OK}, {"1+.", 1, 1, api.OK},
		{"1234567890", 123456789, 9, api.OK}, {"1.1234567890", 1, 11, api.OK}, {"1+1234567890", 123456790, 11, api.OK}, {"1pp", 10, 2, api.OK}, {"1ix", 720, 2, api.OK},
		{"1<=x", 1, 1, api.OK}, {"1<=2=", 1, 4, api.OK}, {"1===1", 1, 1, api.OK}, {"1==1=1=", 1, 6, api.OK}, {"1!2", 1, 1, api.OK},
		{"1 +2", 1, 1, api.OK}, {"1+ 2", 1, 1, api.OK}, {"(1 + 2) +3", 3, 7, api.OK}, {"(1 + 2)+3 ", 6, 9, api.OK}, {"1)", 1, 1, api.OK}, {"(1))", 1, 3, api.OK},
		{"1+(2", 1, 1, api.OK}, {"1+(2+3", 1, 1, api.OK}, {"1+(2+)", 1, 1, api.OK}, {"1+--x", 1, 1, api.OK}, {"1+--2x", 3, 5, api.OK}, {"-|!x", 0, 0, api.ErrForm},
		{"1+(1)2", 2, 5, api.OK}, {"5-()", 5, 1, api.OK}, {"|60|", 10, 3, api.OK},
		{"", 0, 0, api.ErrForm}, {"x", 0, 0, api.ErrForm}, {".", 0, 0, api.ErrForm}, {"-", 0, 0, api.ErrForm}, {"(1", 0, 0, api.ErrForm}, {"(1/0", 0, 0, api.ErrForm},
		{" 1", 0, 0, api.ErrForm}, {"()", 0, 0, api.ErrForm}, {"*1", 0, 0, api.ErrForm}, {"(999999999i", 0, 0, api.ErrForm},
		{"1/0", 0, 0, api.ErrZero}, {"1/0+x", 0, 0, api.ErrZero}, {"1/0+(2", 0, 0, api.ErrZero}, {"1%0 ", 0, 0, api.ErrZero}, {"1+1/0+2", 0, 0, api.ErrZero},
		{"999999999i", 0, 0, api.ErrRange}, {"999999999ix", 0, 0, api.ErrRange}, {"999999999i/0", 0, 0, api.ErrRange}, {"1/0+999999999i", 0, 0, api.ErrZero},
		{"1+(2/0)x", 0, 0, api.ErrZero}, {"1+(999999999i)+", 0, 0, api.ErrRange}, {"500000000*2+1", 0, 0, api.ErrRange}, {"500000000*2+(1", 1000000000, 11, api.OK},
	} {
		if n, used, err := measure.Prefix(k.text, 'u', usual); n != k.want || used != k.used || err != k.err {
			t.Errorf("%q: %d, %d, error %d; want %d, %d, error %d", k.text, n, used, err, k.want, k.used, k.err)
		}
	}
}

// P1.3.
func TestChange(t *testing.T) {
	for _, k := range []struct {
		old int
		reading
	}{
		{100, reading{"7", 7, api.OK}}, {100, reading{"+7", 107, api.OK}}, {100, reading{"-7", 93, api.OK}}, {100, reading{"-1+2", 97, api.OK}},
		{100, reading{"+1+2", 103, api.OK}}, {100, reading{"--3", 103, api.OK}}, {100, reading{"+-3", 97, api.OK}}, {100, reading{"-+3", 97, api.OK}},
		{100, reading{"(-7)", -7, api.OK}}, {100, reading{"!0", 1, api.OK}}, {100, reading{"|60", 10, api.OK}}, {100, reading{"-|60", 90, api.OK}}, {100, reading{"-3*4", 88, api.OK}},
		{100, reading{"+1i", 820, api.OK}}, {0, reading{"-(1 + 2)", -3, api.OK}}, {-5, reading{"-5", -10, api.OK}},
		{100, reading{"+", 0, api.ErrForm}}, {100, reading{"-", 0, api.ErrForm}}, {100, reading{"", 0, api.ErrForm}}, {100, reading{"x", 0, api.ErrForm}},
		{100, reading{"+x", 0, api.ErrForm}}, {100, reading{"+ 1", 0, api.ErrForm}}, {100, reading{"-*1", 0, api.ErrForm}}, {100, reading{" +1", 0, api.ErrForm}}, {100, reading{"7 ", 0, api.ErrForm}},
		{100, reading{"+1/0", 0, api.ErrZero}}, {100, reading{"1/0", 0, api.ErrZero}}, {100, reading{"-999999999i", 0, api.ErrRange}}, {100, reading{"999999999i", 0, api.ErrRange}},
		{1000000000, reading{"+0", 1000000000, api.OK}}, {1000000000, reading{"+1", 0, api.ErrRange}}, {1000000000, reading{"-1", 999999999, api.OK}}, {1000000000, reading{"5", 5, api.OK}},
		{-1000000000, reading{"-0", -1000000000, api.OK}}, {-1000000000, reading{"-1", 0, api.ErrRange}}, {-1000000000, reading{"+1", -999999999, api.OK}},
		{1000000000, reading{"--1", 0, api.ErrRange}}, {1000000000, reading{"+1x", 0, api.ErrForm}},
		{1000000001, reading{"5", 0, api.ErrArg}}, {-1000000001, reading{"+5", 0, api.ErrArg}}, {1000000001, reading{"x", 0, api.ErrArg}}, {math.MinInt, reading{"-1", 0, api.ErrArg}}, {math.MaxInt, reading{"", 0, api.ErrArg}},
	} {
		if n, err := measure.Change(k.old, k.text, 'u', usual); n != k.want || err != k.err {
			t.Errorf("%d, %q: %d, error %d; want %d, error %d", k.old, k.text, n, err, k.want, k.err)
		}
	}
}

func TestUnit(t *testing.T) {
	c := measure.Context{Size: 7, Vs: 31, Here: -9}
	for scale, want := range map[byte]int{'u': 1, 'p': 10, 'P': 120, 'i': 720, 'c': 283, 'm': 70, 'n': 35, 'v': 31} {
		if n, err := measure.Unit(scale, c); n != want || err != api.OK {
			t.Errorf("%c: %d, error %d", scale, n, err)
		}
	}
	for _, scale := range []byte(badScales) {
		if n, err := measure.Unit(scale, c); n != 0 || err != api.ErrArg {
			t.Errorf("%q: %d, error %d", scale, n, err)
		}
	}
}

func TestText(t *testing.T) {
	for _, k := range []struct {
		n     int
		scale byte
		want  string
		err   api.Errno
	}{
		{15, 'p', "1.5p", 0}, {720, 'i', "1i", 0}, {1, 'i', "0.0013i", 0}, {0, 'u', "0u", 0}, {130, 'P', "1.0833P", 0}, {0, 'i', "0i", 0},
		{7, 'u', "7u", 0}, {10, 'p', "1p", 0}, {1, 'p', "0.1p", 0}, {100, 'p', "10p", 0}, {60, 'P', "0.5P", 0}, {1, 'P', "0.0083P", 0}, {119, 'P', "0.9916P", 0}, {126, 'P', "1.05P", 0},
		{360, 'i', "0.5i", 0}, {719, 'i', "0.9986i", 0}, {9, 'i', "0.0125i", 0}, {180, 'i', "0.25i", 0}, {7200, 'i', "10i", 0}, {1000000000, 'u', "1000000000u", 0},
		{math.MaxInt, 'u', "9223372036854775807u", 0}, {math.MaxInt, 'p', "922337203685477580.7p", 0}, {math.MaxInt, 'P', "76861433640456465.0583P", 0}, {math.MaxInt, 'i', "12810238940076077.5097i", 0},
		{-1, 'u', "", api.ErrArg}, {math.MinInt, 'i', "", api.ErrArg}, {1, 'c', "", api.ErrArg}, {1, 'm', "", api.ErrArg}, {1, 'n', "", api.ErrArg}, {1, 'v', "", api.ErrArg}, {0, 'q', "", api.ErrArg}, {0, 0, "", api.ErrArg}, {-1, 'q', "", api.ErrArg},
	} {
		if s, err := measure.Text(k.n, k.scale); s != k.want || err != k.err {
			t.Errorf("%d in %q: %q, error %d; want %q, error %d", k.n, k.scale, s, err, k.want, k.err)
		}
	}
}

// P1.4, and what holds of all texts.

// chance yields numbers that are the same in every run.
type chance uint32

func (c *chance) below(n int) int {
	*c = *c*1664525 + 1013904223
	return int(uint32(*c)>>8) % n
}

func (c *chance) text(letters string, most int) string {
	text := make([]byte, c.below(most+1))
	for i := range text {
		text[i] = letters[c.below(len(letters))]
	}
	return string(text)
}

func TestTextIsReadAgain(t *testing.T) {
	numbers := []int{0, 1, 9, 10, 11, 99, 100, 12345, 99999999, 100000000, 999999990, 999999999}
	c := chance(1)
	for range 2000 {
		numbers = append(numbers, c.below(1<<24)*59)
	}
	for _, n := range numbers {
		for _, scale := range []byte("up") {
			s, err := measure.Text(n, scale)
			if err != api.OK {
				t.Fatalf("Text of %d in %c: error %d", n, scale, err)
			}
			for _, other := range []byte("ui") {
				if back, err := measure.Eval(s, other, usual); back != n || err != api.OK {
					t.Errorf("%d is %s, which is %d, error %d", n, s, back, err)
				}
			}
		}
	}
}

func TestChainsAreSums(t *testing.T) {
	c := chance(2)
	for range 500 {
		sum := c.below(100000)
		s := strconv.Itoa(sum)
		for range c.below(60) {
			n := c.below(100000)
			if c.below(2) == 0 {
				s, sum = s+"+"+strconv.Itoa(n), sum+n
			} else {
				s, sum = s+"-"+strconv.Itoa(n), sum-n
			}
		}
		if n, err := measure.Eval(s, 'u', usual); n != sum || err != api.OK {
			t.Errorf("%s: %d, error %d; want %d", s, n, err, sum)
		}
		if n, used, err := measure.Prefix(s, 'u', usual); n != sum || used != len(s) || err != api.OK {
			t.Errorf("Prefix of %s: %d, %d, error %d; want %d", s, n, used, err, sum)
		}
	}
}

// TestPrefixIsTheLongestBeginning leaves out what cannot be reckoned, so that Eval tells of each beginning whether it is an expression.
func TestPrefixIsTheLongestBeginning(t *testing.T) {
	c := chance(3)
	for range 60000 {
		s := c.text("11225.p+-!|(() )<=&:", 14)
		want, used, err := 0, 0, api.ErrForm
		for i := 1; i <= len(s); i++ {
			if n, e := measure.Eval(s[:i], 'u', usual); e == api.OK {
				want, used, err = n, i, api.OK
			}
		}
		if n, u, e := measure.Prefix(s, 'u', usual); n != want || u != used || e != err {
			t.Fatalf("%q: %d, %d, error %d; want %d, %d, error %d", s, n, u, e, want, used, err)
		}
	}
}

func TestAnyText(t *testing.T) {
	c := chance(4)
	for range 60000 {
		s := c.text("0129999.upPicmnv+-*/%<>=!|&:() x\x00\xff", 20)
		whole, err := measure.Eval(s, 'v', usual)
		if err != api.OK && whole != 0 {
			t.Fatalf("%q: %d, error %d", s, whole, err)
		}
		n, used, e := measure.Prefix(s, 'v', usual)
		if e != api.OK && (n != 0 || used != 0) || e == api.OK && (used < 1 || used > len(s)) {
			t.Fatalf("Prefix of %q: %d, %d, error %d", s, n, used, e)
		}
		if err == api.OK && (n != whole || used != len(s) || e != api.OK) {
			t.Fatalf("%q is %d, its Prefix %d, %d, error %d", s, whole, n, used, e)
		}
		if one, e := measure.Number(s, 'v', usual); e == api.OK && (one != whole || err != api.OK) {
			t.Fatalf("%q is the number %d, reckoned %d, error %d", s, one, whole, err)
		}
		if changed, e := measure.Change(0, s, 'v', usual); e != api.OK && changed != 0 {
			t.Fatalf("Change by %q: %d, error %d", s, changed, e)
		}
	}
}
