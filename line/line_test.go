package line_test

import (
	"math"
	"reflect"
	"slices"
	"strings"
	"testing"

	"frisket/api"
	"frisket/line"
)

func TestTexts(t *testing.T) {
	for n := 1990; n < 2010; n++ {
		text := strings.Repeat("t", n)
		if line.ValidText(text) != (n <= 2000) {
			t.Errorf("a text of %d bytes", n)
		}
	}
	for b := range 256 {
		one := string([]byte{byte(b)})
		for _, text := range []string{one, "a" + one, one + "a", "a" + one + "a"} {
			if line.ValidText(text) != (b != '\n') {
				t.Errorf("%q", text)
			}
		}
	}
	if !line.ValidText("") {
		t.Error("the empty text")
	}
}

func TestLines(t *testing.T) {
	good := []api.Line{
		{}, {Text: "x"}, {Boxes: []api.Box{}}, {Made: true}, {Made: true, Up: 1000000, Down: -1000000}, {Made: true, Up: -1000000, Down: 1000000},
		{Made: true, Boxes: make([]api.Box, 2000)}, {Made: true, Boxes: []api.Box{{Kind: -1, Width: math.MaxInt, Name: "\n"}}},
	}
	bad := []api.Line{
		{Text: "\n"}, {Text: strings.Repeat("t", 2001)}, {Text: "x", Up: 1}, {Down: -1}, {Boxes: make([]api.Box, 1)},
		{Made: true, Text: "x"}, {Made: true, Up: 1000001}, {Made: true, Up: -1000001}, {Made: true, Down: 1000001}, {Made: true, Down: math.MinInt}, {Made: true, Boxes: make([]api.Box, 2001)},
	}
	if !line.Valid(nil) || !line.Valid(good) {
		t.Error("good lines")
	}
	for i, l := range bad {
		if line.Valid([]api.Line{l}) || line.Valid(append(slices.Clone(good), l)) || line.Valid(append([]api.Line{l}, good...)) {
			t.Errorf("bad line %d", i)
		}
	}
}

func TestCopiesShareNothing(t *testing.T) {
	fresh := func() []api.Line {
		return []api.Line{{Text: "a"}, {Made: true, Up: 1, Down: 2, Boxes: []api.Box{{Kind: 4, Name: "l", N: []int{1, 2}}, {Name: "b"}}}}
	}
	from := fresh()
	all, one := line.Copies(from), line.Copy(from[1])
	if !reflect.DeepEqual(all, fresh()) || !reflect.DeepEqual(one, fresh()[1]) {
		t.Error("copies", all, one)
	}
	from[0].Text = "changed"
	from[1].Boxes[0].N[1] = 99
	from[1].Boxes[1].Name = "changed"
	if !reflect.DeepEqual(all, fresh()) || !reflect.DeepEqual(one, fresh()[1]) {
		t.Error("copies changed", all, one)
	}
	if len(line.Copies(nil)) != 0 {
		t.Error("copies of none")
	}
}
