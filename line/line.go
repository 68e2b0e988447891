// Package line tells what can be a line (layer 3), and copies lines for whatever keeps them.
package line

import (
	"slices"
	"strings"

	"frisket/api"
	"frisket/box"
)

const (
	maxBoxes  = 2000 // of a made line
	maxHeight = 1000000
)

// ValidText tells whether a text can be that of a line.
func ValidText(text string) bool {
	return len(text) <= api.MaxLine && !strings.Contains(text, "\n")
}

// Valid tells whether all lines are a text alone, or made without any text.
func Valid(lines []api.Line) bool {
	for _, l := range lines {
		if !valid(l) {
			return false
		}
	}
	return true
}

func valid(l api.Line) bool {
	if l.Made {
		return l.Text == "" && validHeight(l.Up) && validHeight(l.Down) && len(l.Boxes) <= maxBoxes
	}
	return ValidText(l.Text) && l.Up == 0 && l.Down == 0 && len(l.Boxes) == 0
}

func validHeight(n int) bool {
	return -maxHeight <= n && n <= maxHeight
}

// Copies copies lines, with all that they could share.
func Copies(lines []api.Line) []api.Line {
	copies := slices.Clone(lines)
	for i, l := range copies {
		copies[i] = Copy(l)
	}
	return copies
}

// Copy copies a line, with all that it could share.
func Copy(l api.Line) api.Line {
	l.Boxes = box.Copies(l.Boxes)
	return l
}
