package measure

import (
	"strings"

	"frisket/api"
)

const (
	maxDigits = 9 // on each side of a number's point
	maxDepth  = 20
)

// operators has the longer ones first, because they are read longest first.
var operators = [...]string{"<=", ">=", "==", "<", ">", "=", "+", "-", "*", "/", "%", "&", ":"}

// reader reckons while it reads, so that errors come in the order in which a text has them.
type reader struct {
	text      string
	at        int
	scale     byte
	context   Context
	depth     int
	whole     int  // where the last operand outside all brackets ended
	formAlone bool // errors of reckoning do not count
}

// caught runs a reading, and turns the error that it throws into a result.
func caught(reading func() int) (n int, err api.Errno) {
	defer func() {
		if thrown, ok := recover().(api.Errno); ok {
			err = thrown
		}
	}()
	return reading(), api.OK
}

func (r *reader) fail(err api.Errno) {
	if err == api.ErrForm || !r.formAlone {
		panic(err)
	}
}

// within lets a value pass that is in the range; every value goes through it, also those between.
func (r *reader) within(value int) int {
	if !inRange(value) {
		r.fail(api.ErrRange)
		return 0
	}
	return value
}

func (r *reader) onlyNumber() int {
	minus := r.take('-')
	if !minus {
		r.take('+')
	}
	value := r.number()
	r.end()
	if minus {
		return -value
	}
	return value
}

func (r *reader) onlyExpression() int {
	value := r.expression()
	r.end()
	return value
}

func (r *reader) end() {
	if r.at < len(r.text) {
		r.fail(api.ErrForm)
	}
}

func (r *reader) expression() int {
	value := r.operand()
	for {
		if r.depth == 0 {
			r.whole = r.at
		}
		operator := r.operator()
		if operator == "" {
			return value
		}
		value = r.apply(operator, value, r.operand())
	}
}

// operand does not call itself for the signs ahead: there may be any number of them.
func (r *reader) operand() int {
	r.skipBlanks()
	first := r.at
	for r.at < len(r.text) && strings.IndexByte("+-!|", r.text[r.at]) >= 0 {
		r.at++
		r.skipBlanks()
	}
	behind := r.at
	var value int
	if r.take('(') {
		value = r.bracket()
	} else {
		value = r.number()
	}
	for i := behind - 1; i >= first; i-- {
		value = r.signed(r.text[i], value)
	}
	return value
}

func (r *reader) bracket() int {
	if r.depth == maxDepth {
		r.fail(api.ErrForm)
	}
	r.depth++
	value := r.expression()
	if !r.take(')') {
		r.fail(api.ErrForm)
	}
	r.depth--
	return value
}

func (r *reader) number() int {
	whole, count := r.digits()
	part, places := 0, 0
	if r.at+1 < len(r.text) && r.text[r.at] == '.' && isDigit(r.text[r.at+1]) {
		r.at++
		part, places = r.digits()
	}
	if count+places == 0 {
		r.fail(api.ErrForm)
	}
	unit := r.unit()
	part *= unit
	for range places {
		part /= 10
	}
	return r.within(whole*unit + part)
}

func (r *reader) digits() (value, count int) {
	for count < maxDigits && r.at < len(r.text) && isDigit(r.text[r.at]) {
		value = value*10 + int(r.text[r.at]-'0')
		r.at++
		count++
	}
	return value, count
}

// unit takes the scale behind a number, if there is one.
func (r *reader) unit() int {
	if r.at < len(r.text) {
		if unit, known := unitOf(r.text[r.at], r.context); known {
			r.at++
			return unit
		}
	}
	unit, _ := unitOf(r.scale, r.context)
	return unit
}

func (r *reader) operator() string {
	r.skipBlanks()
	for _, operator := range operators {
		if strings.HasPrefix(r.text[r.at:], operator) {
			r.at += len(operator)
			return operator
		}
	}
	return ""
}

func (r *reader) take(b byte) bool {
	if r.at < len(r.text) && r.text[r.at] == b {
		r.at++
		return true
	}
	return false
}

// skipBlanks skips nothing outside of brackets, because an expression ends at a blank there.
func (r *reader) skipBlanks() {
	for r.depth > 0 && r.take(' ') {
	}
}

// signed leaves a value as it is for a + and for the blanks between signs.
func (r *reader) signed(sign byte, value int) int {
	switch sign {
	case '-':
		return -value
	case '!':
		return truth(value <= 0)
	case '|':
		return r.within(value - r.context.Here)
	}
	return value
}

func (r *reader) apply(operator string, a, b int) int {
	switch operator {
	case "+":
		return r.within(a + b)
	case "-":
		return r.within(a - b)
	case "*":
		return r.within(a * b)
	case "/", "%":
		return r.divide(operator, a, b)
	case "<":
		return truth(a < b)
	case ">":
		return truth(a > b)
	case "<=":
		return truth(a <= b)
	case ">=":
		return truth(a >= b)
	case "&":
		return truth(a > 0 && b > 0)
	case ":":
		return truth(a > 0 || b > 0)
	}
	return truth(a == b)
}

func (r *reader) divide(operator string, a, b int) int {
	if b == 0 {
		r.fail(api.ErrZero)
		return 0
	}
	if operator == "/" {
		return a / b
	}
	return a % b
}

func truth(holds bool) int {
	if holds {
		return 1
	}
	return 0
}

func isDigit(b byte) bool {
	return '0' <= b && b <= '9'
}
