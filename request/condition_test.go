package request_test

import (
	"strings"
	"testing"

	"frisket/api"
	"frisket/request"
)

func checkCondition(t *testing.T, s string, want request.Cond) {
	t.Helper()
	if got, err := request.Condition(s); got != want || err != api.OK {
		t.Errorf("%.100q: %+v, error %d; want %+v", s, got, err, want)
	}
}

func checkNoCondition(t *testing.T, s string, want api.Errno) {
	t.Helper()
	if got, err := request.Condition(s); got != (request.Cond{}) || err != want {
		t.Errorf("%.100q: %+v, error %d; want error %d", s, got, err, want)
	}
}

// P6.1: what is no line comes ahead of what is malformed.
func TestConditionsInWrongLines(t *testing.T) {
	for _, s := range []string{"\n", "o\n", "o x\ny", "!\n", "'a\n", "'a'b'\n", "d \n", "dx\n", "1\n2", repeated("1", 2001), repeated(" ", 2001), repeated("!", 2001), "'" + repeated("a", 2000), "d" + repeated(" ", 2000), repeated("o", 100000)} {
		checkNoCondition(t, s, api.ErrArg)
	}
	checkCondition(t, "o"+repeated("x", 1999), request.Cond{Kind: 'o', Rest: repeated("x", 1999)})
	checkCondition(t, repeated("1", 2000), request.Cond{Kind: 'x', Name: repeated("1", 2000)})
	checkCondition(t, repeated("!", 1999)+"e", request.Cond{Not: true, Kind: 'e'})
	checkCondition(t, "'"+repeated("a", 1997)+"''", request.Cond{Kind: '\'', Left: repeated("a", 1997)})
	checkCondition(t, repeated(" ", 1999)+"t", request.Cond{Kind: 't'})
	checkNoCondition(t, repeated(" ", 2000), api.ErrForm)
	checkNoCondition(t, repeated("!", 2000), api.ErrForm)
	checkNoCondition(t, "'"+repeated("a", 1999), api.ErrForm)
}

// P6.2: nothing there, or a text that does not end.
func TestMalformedConditions(t *testing.T) {
	for _, s := range []string{"", " ", " \t ", "!", "!!", "  !", "! ", "!\t", "! o", "! 1", "!!\tt", "! !o", "! 1 2 3", "!!\t1\t2\t3", "d", "r", "d ", "r ", "d x", "r\tx", "!d", "!!r x", "'", "''", "'a", "'a'", "'a'b", "''a", `"a"b`, "/a'b'", "!'a'b", ",", "<1", "*a*", "\x00a", "\xff\xff", "éa"} {
		checkNoCondition(t, s, api.ErrForm)
	}
}

func TestConditionsOfOneByte(t *testing.T) {
	for _, kind := range []byte("oetn") {
		letter := string(rune(kind))
		for behind, rest := range map[string]string{
			"": "", " ": "", " \t ": "", " x": "x", "\tx": "x", "  \t x y ": "x y ", "x": "x", "x y": "x y", ".br": ".br", letter: letter, "1>2 x": "1>2 x", "'a'b'": "'a'b'", "!": "!", " !o": "!o", `\{`: `\{`, ` \{x`: `\{x`,
		} {
			checkCondition(t, letter+behind, request.Cond{Kind: kind, Rest: rest})
			checkCondition(t, " \t "+letter+behind, request.Cond{Kind: kind, Rest: rest})
			checkCondition(t, "!"+letter+behind, request.Cond{Not: true, Kind: kind, Rest: rest})
			checkCondition(t, "\t!!"+letter+behind, request.Cond{Kind: kind, Rest: rest})
			checkCondition(t, "!!!"+letter+behind, request.Cond{Not: true, Kind: kind, Rest: rest})
		}
	}
}

func TestConditionsOfNames(t *testing.T) {
	for _, kind := range []byte("dr") {
		letter := string(rune(kind))
		for behind, want := range map[string]request.Cond{
			"xx":         {Name: "xx"},
			"xx  .br":    {Name: "xx", Rest: ".br"},
			"x\ty z":     {Name: "x", Rest: "y z"},
			"x \t \t.br": {Name: "x", Rest: ".br"},
			"x ":         {Name: "x"},
			letter:       {Name: letter},
			"o x":        {Name: "o", Rest: "x"},
			"!x y":       {Name: "!x", Rest: "y"},
			"'a'b' c":    {Name: "'a'b'", Rest: "c"},
			`\*x y`:      {Name: `\*x`, Rest: "y"},
			`a\ b`:       {Name: `a\`, Rest: "b"},
			"]\xff\x00 ": {Name: "]\xff\x00"},
		} {
			want.Kind = kind
			checkCondition(t, letter+behind, want)
			want.Not = true
			checkCondition(t, "  !"+letter+behind, want)
		}
	}
}

func TestConditionsOfTexts(t *testing.T) {
	for s, want := range map[string]request.Cond{
		"'a'b'":         {Left: "a", Right: "b"},
		"'a'b' z":       {Left: "a", Right: "b", Rest: "z"},
		"'a'b'z":        {Left: "a", Right: "b", Rest: "z"},
		"'a'b' \t z y":  {Left: "a", Right: "b", Rest: "z y"},
		"'''":           {},
		"''''":          {Rest: "'"},
		"'' '":          {Right: " "},
		"'a''":          {Left: "a"},
		"''b'":          {Right: "b"},
		"' a b 'c\td' ": {Left: " a b ", Right: "c\td"},
		`"a'b"c"d"e`:    {Left: "a'b", Right: "c", Rest: `d"e`},
		`'a\'b\'c'`:     {Left: `a\`, Right: `b\`, Rest: "c'"},
		`'\*x'\n(yy' .`: {Left: `\*x`, Right: `\n(yy`, Rest: "."},
		"=a=b=c":        {Left: "a", Right: "b", Rest: "c"},
		"<1<2<3":        {Left: "1", Right: "2", Rest: "3"},
		"\xc3é\xc3z":    {Right: "\xa9", Rest: "z"},
	} {
		want.Kind = '\''
		checkCondition(t, s, want)
		checkCondition(t, " \t"+s, want)
		want.Not = true
		checkCondition(t, "!"+s, want)
	}
}

func TestConditionsOfExpressions(t *testing.T) {
	for s, want := range map[string]request.Cond{
		"3>2 yes no":  {Name: "3>2", Rest: "yes no"},
		"0":           {Name: "0"},
		"1\t.br":      {Name: "1", Rest: ".br"},
		"1  \t .br ":  {Name: "1", Rest: ".br "},
		`\nx .br`:     {Name: `\nx`, Rest: ".br"},
		`\ x`:         {Name: `\`, Rest: "x"},
		"-1 x":        {Name: "-1", Rest: "x"},
		"+1!2 x":      {Name: "+1!2", Rest: "x"},
		"|3i":         {Name: "|3i"},
		".5 x":        {Name: ".5", Rest: "x"},
		"(1+2)>2 x":   {Name: "(1+2)>2", Rest: "x"},
		"(1 + 2)>2 x": {Name: "(1", Rest: "+ 2)>2 x"},
		"1'a'b'":      {Name: "1'a'b'"},
		"xyz a":       {Name: "xyz", Rest: "a"},
		"Od a":        {Name: "Od", Rest: "a"},
		"c":           {Name: "c"},
	} {
		want.Kind = 'x'
		checkCondition(t, s, want)
		checkCondition(t, "\t "+s, want)
		want.Not = true
		checkCondition(t, "!!!"+s, want)
	}
}

// P6.2: which byte begins what.
func TestFirstBytesOfConditions(t *testing.T) {
	letters := "abcdefghijklmnopqrstuvwxyzABCDEFGHIJKLMNOPQRSTUVWXYZ"
	for b := range 256 {
		q := string([]byte{byte(b)})
		s := q + "1" + q + "2" + q + "3 4"
		switch {
		case q == "\n":
			checkNoCondition(t, s, api.ErrArg)
		case strings.Contains("oetn", q):
			checkCondition(t, s, request.Cond{Kind: byte(b), Rest: s[1:]})
		case strings.Contains("dr", q):
			checkCondition(t, s, request.Cond{Kind: byte(b), Name: s[1:6], Rest: "4"})
		case strings.Contains(" \t", q):
			checkCondition(t, s, request.Cond{Kind: 'x', Name: "1", Rest: strings.TrimLeft(s[2:], q)})
		case q == "!":
			checkCondition(t, s, request.Cond{Not: true, Kind: 'x', Name: s[1:6], Rest: "4"})
		case strings.Contains(letters+`0123456789(+-.|\`, q):
			checkCondition(t, s, request.Cond{Kind: 'x', Name: s[:6], Rest: "4"})
		default:
			checkCondition(t, s, request.Cond{Kind: '\'', Left: "1", Right: "2", Rest: "3 4"})
		}
	}
}
