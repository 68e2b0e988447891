// Package box copies boxes (layer 8) for whatever keeps them or gives them away.
package box

import (
	"slices"

	"frisket/api"
)

// Copies copies boxes, with all that they could share.
func Copies(boxes []api.Box) []api.Box {
	copies := slices.Clone(boxes)
	for i, b := range copies {
		copies[i] = Copy(b)
	}
	return copies
}

// Copy copies a box, with all that it could share.
func Copy(b api.Box) api.Box {
	b.N = slices.Clone(b.N)
	return b
}
