package store

import (
	"slices"

	"frisket/api"
)

// The kinds of entries.
const (
	aString = 1
	aMacro  = 2
)

const maxLines = 2000

// entry has no lines if it is a string, and no text if it is a macro.
type entry struct {
	kind  int
	text  string
	lines []api.Line
}

func (e *entry) length() int {
	if e.kind == aString {
		return len(e.text)
	}
	return len(e.lines)
}

// keep clones the lines that stay, because the others would stay in memory with them.
func (e *entry) keep(start, end int) {
	if e.kind == aString {
		e.text = e.text[start:end]
		return
	}
	e.lines = slices.Clone(e.lines[start:end])
}

// span tells where the part between two places starts and ends, in something of n bytes or lines.
func span(n, from, to int) (start, end int) {
	from, to = place(n, from), place(n, to)
	if from > to {
		from, to = to, from
	}
	// A place behind the end is cut first, since there may be no number that is one more.
	start, end = max(from, 0), min(to, n-1)+1
	if start >= end {
		return 0, 0
	}
	return start, end
}

func place(n, at int) int {
	if at < 0 {
		return n + at
	}
	return at
}
