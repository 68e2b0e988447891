// Package names tells what can be a name: of a register (layer 2), and of whatever else has names like registers; of a glyph; of a colour.
package names

import (
	"strings"

	"frisket/api"
)

const (
	maxGlyph  = 10 // bytes of a glyph's name
	maxColour = 20 // bytes of a colour's name
)

// Valid tells whether a text can be a name: 1 to 20 bytes from 33 to 126, without ].
func Valid(name string) bool {
	return visible(name, api.MaxName) && !strings.Contains(name, "]")
}

// Glyph tells whether a text can be a glyph's name (layer 7): 1 to 10 bytes from 33 to 126.
func Glyph(name string) bool {
	return visible(name, maxGlyph)
}

// Colour tells whether a text can be a colour's name (layer 17): 1 to 20 bytes from 33 to 126.
func Colour(name string) bool {
	return visible(name, maxColour)
}

// visible tells whether a name has at least one byte and at most so many, all of which can be seen.
func visible(name string, most int) bool {
	if len(name) < 1 || len(name) > most {
		return false
	}
	for _, b := range []byte(name) {
		if b < 33 || b > 126 {
			return false
		}
	}
	return true
}
