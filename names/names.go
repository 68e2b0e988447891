// Package names tells what can be a name of a register (layer 2), and of whatever else has names like registers.
package names

import "frisket/api"

// Valid tells whether a text can be a name: 1 to 20 bytes from 33 to 126, without ].
func Valid(name string) bool {
	if len(name) < 1 || len(name) > api.MaxName {
		return false
	}
	for _, b := range []byte(name) {
		if b < 33 || b > 126 || b == ']' {
			return false
		}
	}
	return true
}
