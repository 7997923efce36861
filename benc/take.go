package benc

import (
	"math"
	"plover/api"
)

// Take is the value that bytes begin with, and how many bytes.
func Take(s string) (v api.Value, used int, e api.Errno) {
	r := reader{s: s}
	held := r.value()
	if why, refused := held.(api.Errno); refused {
		return api.Value{}, 0, why
	}
	if r.at > api.MaxValue {
		return api.Value{}, 0, api.ErrLong
	}
	return valueOf(held), r.at, api.OK
}

// Only is the value that bytes are, nothing behind.
func Only(s string) (api.Value, api.Errno) {
	v, used, e := Take(s)
	if e != api.OK {
		return api.Value{}, e
	}
	if used < len(s) {
		return api.Value{}, api.ErrValue
	}
	return v, api.OK
}

// valueOf is the value of what was read: an int, a string, or a list of such.
func valueOf(held any) api.Value {
	switch x := held.(type) {
	case int:
		return Int(x)
	case string:
		return Str(x)
	case []any:
		var l []api.Value
		for _, inner := range x {
			l = append(l, valueOf(inner))
		}
		return List(l...)
	}
	return api.Value{}
}

// reader goes over bytes once. What it tells is held as any: an int, a string, a list of such, or the api.Errno by which the bytes are refused.
type reader struct {
	s    string
	at   int // the place of the next byte
	deep int // how many lists are open
}

// more tells whether the next byte is there.
func (r *reader) more() bool {
	return r.at < len(r.s)
}

// is tells whether a byte is the next one.
func (r *reader) is(c byte) bool {
	return r.more() && r.s[r.at] == c
}

func (r *reader) value() any {
	switch {
	case !r.more():
		return api.ErrShort
	case r.is('i'):
		return r.number()
	case r.is('l'):
		return r.list()
	case isDigit(r.s[r.at]):
		return r.text()
	}
	return api.ErrValue
}

func (r *reader) number() any {
	r.at++
	most, below := uint64(math.MaxInt64), r.is('-')
	if below {
		r.at++
		most++
		if r.is('0') {
			return api.ErrValue
		}
	}
	n, e := r.digits(most, 'e', api.ErrValue)
	if e != api.OK {
		return e
	}
	if below {
		return int(-n) // turned ahead of the conversion, as 2^63 is no int
	}
	return int(n)
}

func (r *reader) text() any {
	n, e := r.digits(api.MaxValue, ':', api.ErrLong)
	if e != api.OK {
		return e
	}
	begin, size := r.at, int(n)
	if len(r.s)-begin < size {
		return api.ErrShort
	}
	r.at += size
	return r.s[begin:r.at]
}

func (r *reader) list() any {
	if r.deep == api.MaxDeep {
		return api.ErrDeep
	}
	r.at++
	r.deep++
	var l []any
	for r.more() && !r.is('e') {
		held := r.value()
		if why, refused := held.(api.Errno); refused {
			return why
		}
		if r.at <= api.MaxValue { // beyond, the whole is refused in the end, so nothing needs to be held
			l = append(l, held)
		}
	}
	if !r.more() {
		return api.ErrShort
	}
	r.at++
	r.deep--
	return l
}

// digits reads a number up to the byte end; over is told at the digit by which it is above most (at least 9).
func (r *reader) digits(most uint64, end byte, over api.Errno) (uint64, api.Errno) {
	var n uint64
	for begin := r.at; r.more(); r.at++ {
		c := r.s[r.at]
		if c == end && r.at > begin {
			r.at++
			return n, api.OK
		}
		behindNought := n == 0 && r.at > begin
		if !isDigit(c) || behindNought {
			return 0, api.ErrValue
		}
		d := uint64(c - '0')
		if n > (most-d)/10 {
			return 0, over
		}
		n = 10*n + d
	}
	return 0, api.ErrShort
}

func isDigit(c byte) bool {
	return '0' <= c && c <= '9'
}
