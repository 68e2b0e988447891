// Package measure is layer 1: see shared/doc/01-measure.md.
package measure

import (
	"strconv"
	"strings"

	"frisket/api"
)

const maxSize = 1000000 // of a context's Size and Vs

// Context is what scales and the sign | depend on.
type Context struct{ Size, Vs, Here int }

// Number reads a text that is one number, with or without a + or - ahead.
func Number(s string, scale byte, c Context) (int, api.Errno) {
	if !valid(scale, c) {
		return 0, api.ErrArg
	}
	r := reader{text: s, scale: scale, context: c}
	return caught(r.onlyNumber)
}

// Eval reckons a text that is an expression.
func Eval(s string, scale byte, c Context) (int, api.Errno) {
	if !valid(scale, c) {
		return 0, api.ErrArg
	}
	r := reader{text: s, scale: scale, context: c}
	return caught(r.onlyExpression)
}

// Prefix reckons the longest beginning of a text that is an expression, and tells its length.
func Prefix(s string, scale byte, c Context) (n, used int, err api.Errno) {
	if !valid(scale, c) {
		return 0, 0, api.ErrArg
	}
	// Two readings: a division by 0 must not hide how far the form reaches.
	form := reader{text: s, scale: scale, context: c, formAlone: true}
	caught(form.expression)
	if form.whole == 0 {
		return 0, 0, api.ErrForm
	}
	n, err = Eval(s[:form.whole], scale, c)
	if err != api.OK {
		return 0, 0, err
	}
	return n, form.whole, api.OK
}

// Change reckons a new value of what has an old one: a text with a + or - ahead is relative to it.
func Change(old int, s string, scale byte, c Context) (int, api.Errno) {
	if !inRange(old) || !valid(scale, c) {
		return 0, api.ErrArg
	}
	if s == "" || s[0] != '+' && s[0] != '-' {
		return Eval(s, scale, c)
	}
	by, err := Eval(s[1:], scale, c)
	if err != api.OK {
		return 0, err
	}
	if s[0] == '-' {
		by = -by
	}
	if !inRange(old + by) {
		return 0, api.ErrRange
	}
	return old + by, api.OK
}

// Text writes units in one of the scales u, p, P and i, with at most 4 digits behind a point.
func Text(n int, scale byte) (string, api.Errno) {
	if n < 0 || strings.IndexByte("upPi", scale) < 0 {
		return "", api.ErrArg
	}
	unit, _ := unitOf(scale, Context{})
	text := strconv.Itoa(n / unit)
	// The whole part is taken off first, so that no product leaves 64 bits.
	if part := n % unit * 10000 / unit; part > 0 {
		text += "." + strings.TrimRight(strconv.Itoa(10000 + part)[1:], "0")
	}
	return text + string(rune(scale)), api.OK
}

// Unit tells how many units one of a scale is.
func Unit(scale byte, c Context) (int, api.Errno) {
	if !valid(scale, c) {
		return 0, api.ErrArg
	}
	unit, _ := unitOf(scale, c)
	return unit, api.OK
}

func valid(scale byte, c Context) bool {
	_, known := unitOf(scale, c)
	return known && 0 <= c.Size && c.Size <= maxSize && 0 <= c.Vs && c.Vs <= maxSize && inRange(c.Here)
}

func inRange(n int) bool {
	return -api.MaxInt <= n && n <= api.MaxInt
}

func unitOf(scale byte, c Context) (unit int, known bool) {
	switch scale {
	case 'u':
		return 1, true
	case 'p':
		return 10, true
	case 'P':
		return 120, true
	case 'i':
		return 720, true
	case 'c':
		return 283, true
	case 'm':
		return 10 * c.Size, true
	case 'n':
		return 5 * c.Size, true
	case 'v':
		return c.Vs, true
	}
	return 0, false
}
