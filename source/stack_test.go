package source_test

import (
	"reflect"
	"slices"
	"strconv"
	"strings"
	"testing"

	"frisket/api"
	"frisket/source"
)

func TestCopiesAreApart(t *testing.T) {
	for _, change := range []func(s *source.Stack){
		func(s *source.Stack) { s.File("g", "new") },
		func(s *source.Stack) { s.Macro("n", lines("new"), []string{"q"}) },
		func(s *source.Stack) { s.Wait(lines("new")) },
		func(s *source.Stack) { s.Next() },
		func(s *source.Stack) { takeAll(s) },
		func(s *source.Stack) { s.Return(false) },
		func(s *source.Stack) { s.Return(true) },
		func(s *source.Stack) { s.Instead("g", "new") },
		func(s *source.Stack) { s.Shift(2) },
		func(s *source.Stack) { s.Return(false); s.Macro("n", lines("new"), []string{"q"}) },
	} {
		s := started()
		k := s.Copy()
		before := story(s)
		change(k)
		if story(s) != before || story(k) == before {
			t.Errorf("%q: %q, its copy %q", before, story(s), story(k))
		}
		k = s.Copy()
		change(s)
		if story(k) != before || story(s) == before {
			t.Errorf("%q: %q, its copy %q", before, story(s), story(k))
		}
	}
	empty := source.New().Copy()
	wants(t, "File on a copy of an empty stack", empty.File("f", "a"), api.OK)
	takes(t, empty, "a")
	ends(t, empty)
}

func takeAll(s *source.Stack) {
	for range 1000 {
		s.Next()
	}
}

// made is a line with all that a line may share with others.
func made() []api.Line {
	return []api.Line{{Made: true, Up: 1, Boxes: []api.Box{{Kind: 4, Name: "l", N: []int{1, 2}}}}}
}

func spoil(l api.Line) {
	l.Boxes[0].N[0] = 99
	l.Boxes[0].Name = "spoilt"
}

// Arguments and results are apart from what the stack has.
func TestMemoryIsApart(t *testing.T) {
	for _, put := range []func(s *source.Stack, l []api.Line) api.Errno{
		func(s *source.Stack, l []api.Line) api.Errno { return s.Macro("m", l, nil) },
		func(s *source.Stack, l []api.Line) api.Errno { return s.Wait(l) },
	} {
		s := source.New()
		l := made()
		wants(t, "put", put(s, l), api.OK)
		spoil(l[0])
		l[0].Up = 99
		k := s.Copy()
		for range 2 {
			ahead, _ := s.Peek()
			if !reflect.DeepEqual(ahead, made()[0]) {
				t.Error("peeked at", ahead)
			}
			spoil(ahead)
		}
		for _, of := range []*source.Stack{s, k} {
			got, _ := of.Next()
			if !reflect.DeepEqual(got, made()[0]) {
				t.Error("took", got)
			}
			spoil(got)
		}
	}
	s := source.New()
	args := []string{"x", "y", "z"}
	s.Macro("m", nil, args)
	args[0], args[1] = "changed", "changed"
	is(t, s, 1, "m", 0, "x", "y", "z")
	got := s.Args()
	got[1] = "changed"
	s.Shift(1)
	got = append(s.Args()[:1], "changed")
	is(t, s, 1, "m", 0, "y", "z")
	if !slices.Equal(got, []string{"y", "changed"}) {
		t.Error("arguments", got)
	}
}

// heap says the same as a stack in another way: by frames that never change, each with what is below it.
type heap struct {
	kind  byte // f, m, w
	name  string
	args  []string
	left  []string
	taken int
	below *heap
}

func (h *heap) depth() int {
	if h == nil {
		return 0
	}
	return h.below.depth() + 1
}

// reach goes down to a frame of one of some kinds.
func (h *heap) reach(kinds string) *heap {
	if h == nil || strings.IndexByte(kinds, h.kind) >= 0 {
		return h
	}
	return h.below.reach(kinds)
}

func (h *heap) unread() *heap {
	if h == nil || len(h.left) > 0 {
		return h
	}
	return h.below.unread()
}

func (h *heap) with(f heap) *heap {
	for h != nil && h.kind == 'w' && len(h.left) == 0 {
		h = h.below
	}
	f.below = h
	return &f
}

func (h *heap) take() *heap {
	u := h.unread()
	if u == nil {
		return nil
	}
	read := *u
	read.left, read.taken = u.left[1:], u.taken+1
	return &read
}

func (h *heap) withoutMacros() *heap {
	for h.reach("m") != nil {
		h = h.reach("m").below
	}
	return h
}

// shifted drops an argument of the topmost macro, which must be there.
func (h *heap) shifted() *heap {
	f := *h
	if h.kind == 'm' {
		f.args = f.args[min(1, len(f.args)):]
		return &f
	}
	f.below = h.below.shifted()
	return &f
}

// step is what a stack does and what a heap does for it. A heap answers false where the stack has no such state.
type step struct {
	stack func(s *source.Stack) api.Errno
	heap  func(h *heap) (*heap, bool)
}

func steps() []step {
	var list []step
	for _, left := range [][]string{nil, {"1"}, {"1", "2"}} {
		list = append(list,
			step{func(s *source.Stack) api.Errno { return s.File("f", strings.Join(left, "\n")) }, func(h *heap) (*heap, bool) { return h.with(heap{kind: 'f', name: "f", left: left}), true }},
			step{func(s *source.Stack) api.Errno { return s.Macro("m", lines(left...), left) }, func(h *heap) (*heap, bool) { return h.with(heap{kind: 'm', name: "m", left: left, args: left}), true }},
			step{func(s *source.Stack) api.Errno { return s.Wait(lines(left...)) }, func(h *heap) (*heap, bool) { return h.with(heap{kind: 'w', left: left}), true }},
		)
	}
	return append(list,
		step{func(s *source.Stack) api.Errno { s.Next(); return api.OK }, func(h *heap) (*heap, bool) { return h.take(), true }},
		step{func(s *source.Stack) api.Errno { return s.Return(false) }, func(h *heap) (*heap, bool) {
			if h = h.reach("m"); h == nil {
				return nil, false
			}
			return h.below, true
		}},
		step{func(s *source.Stack) api.Errno { return s.Return(true) }, func(h *heap) (*heap, bool) { return h.withoutMacros(), h.reach("m") != nil }},
		step{func(s *source.Stack) api.Errno { return s.Instead("i", "3") }, func(h *heap) (*heap, bool) {
			if h = h.reach("f"); h == nil {
				return nil, false
			}
			return h.below.with(heap{kind: 'f', name: "i", left: []string{"3"}}), true
		}},
		step{func(s *source.Stack) api.Errno { return s.Shift(1) }, func(h *heap) (*heap, bool) {
			if h.reach("m") == nil {
				return nil, false
			}
			return h.shifted(), true
		}},
	)
}

func sameAsHeap(t *testing.T, s *source.Stack, h *heap) {
	t.Helper()
	named, file, macro := heap{}, heap{}, heap{}
	if f := h.reach("fm"); f != nil {
		named = *f
	}
	if f := h.reach("f"); f != nil {
		file = *f
	}
	if f := h.reach("m"); f != nil {
		macro = *f
	}
	is(t, s, h.depth(), named.name, file.taken, macro.args...)
	ahead, err := s.Peek()
	if u := h.unread(); u == nil && err != api.ErrNone || u != nil && (err != api.OK || ahead.Text != u.left[0]) {
		t.Errorf("peeked at %q, error %d", ahead.Text, err)
	}
}

// P5.2: all sequences of some steps.
func TestAllSequences(t *testing.T) {
	list := steps()
	var follow func(s *source.Stack, h *heap, path string, left int)
	follow = func(s *source.Stack, h *heap, path string, left int) {
		if left == 0 {
			return
		}
		for i, one := range list {
			k, way := s.Copy(), path+" "+strconv.Itoa(i)
			err := one.stack(k)
			then, there := one.heap(h)
			if !there && err != api.ErrState || there && err != api.OK {
				t.Fatalf("steps%s: error %d", way, err)
			}
			if !there {
				then = h
			}
			if sameAsHeap(t, k, then); t.Failed() {
				t.Fatalf("steps%s", way)
			}
			follow(k, then, way, left-1)
		}
	}
	follow(source.New(), nil, "", 5)
}

// P5.3: whatever is put on top, a file's lines come in order, once, and there are never more than 50 frames.
func TestFilesComeWhole(t *testing.T) {
	var want []string
	for i := range 300 {
		want = append(want, "line "+strconv.Itoa(i))
	}
	deepest := 0
	for seed := range uint32(200) {
		s := source.New()
		s.File("f", strings.Join(want, "\n"))
		var got []string
		number := seed
		for turn := range 10000 {
			// Behind some turns nothing is put on top any more, since it would never be read to its end.
			for range seed % 5 {
				number = number*1664525 + 1013904223
				if turn < 500 {
					pushOther(s, number>>16%6)
				}
			}
			deepest = max(deepest, s.Depth())
			l, err := s.Next()
			if err != api.OK {
				break
			}
			if l.Text != "other" {
				got = append(got, l.Text)
			}
			if s.Name() == "f" && s.Line() != len(got) {
				t.Fatal("line", s.Line(), "behind", len(got))
			}
		}
		if !slices.Equal(got, want) {
			t.Fatalf("%d: %q", seed, got)
		}
	}
	if deepest != 50 {
		t.Error(deepest, "frames at most")
	}
}

func pushOther(s *source.Stack, kind uint32) {
	switch kind {
	case 0:
		s.File("g", "other")
	case 1:
		s.Macro("m", lines("other", "other"), nil)
	case 2:
		s.Wait(lines("other"))
	case 3:
		s.Wait(nil)
	case 4:
		s.Macro("n", nil, []string{"x"})
	case 5:
		s.File("h", "")
	}
}
