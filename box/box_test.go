package box_test

import (
	"reflect"
	"testing"

	"frisket/api"
	"frisket/box"
)

func TestCopiesShareNothing(t *testing.T) {
	fresh := func() []api.Box {
		return []api.Box{{Kind: 4, Width: 3, Font: 1, Size: 2, Name: "l", Colour: "red", N: []int{1, 2}}, {Kind: -1, Name: "b"}}
	}
	from := fresh()
	all, one := box.Copies(from), box.Copy(from[0])
	if !reflect.DeepEqual(all, fresh()) || !reflect.DeepEqual(one, fresh()[0]) {
		t.Error("copies", all, one)
	}
	from[0].N[1] = 99
	from[1].Name = "changed"
	if !reflect.DeepEqual(all, fresh()) || !reflect.DeepEqual(one, fresh()[0]) {
		t.Error("copies changed", all, one)
	}
	if len(box.Copies(nil)) != 0 {
		t.Error("copies of none")
	}
}
