// Package wire is layer 1, a canonical encoding as text: see shared/doc/01-wire.md.
package wire

import (
	"math"
	"strconv"
	"strings"
)

// Num returns the encoding of the number n, or the empty string if n is negative.
func Num(n int) string {
	if n < 0 {
		return ""
	}
	return Int(n)
}

// Int returns the encoding of an int.
func Int(n int) string { return strconv.Itoa(n) + ";" }

// Text returns the encoding of a string.
func Text(s string) string { return strconv.Itoa(len(s)) + ":" + s + "," }

// Nums returns the encoding of a list of ints.
func Nums(l []int) string { return list(l, Int) }

// Texts returns the encoding of a list of strings.
func Texts(l []string) string { return list(l, Text) }

// list returns the encoding of a list whose elements encode encodes.
func list[T any](l []T, encode func(T) string) string {
	var b strings.Builder
	b.WriteString(strconv.Itoa(len(l)))
	b.WriteByte('[')
	for _, x := range l {
		b.WriteString(encode(x))
	}
	b.WriteByte(']')
	return b.String()
}

// Reader reads values, one after the other, from a string.
type Reader struct {
	rest   string
	failed bool
}

// Open returns a reader at the beginning of s.
func Open(s string) *Reader { return &Reader{rest: s} }

// Num reads a number.
func (r *Reader) Num() int { return r.digits(';', math.MaxInt) }

// Int reads an int.
func (r *Reader) Int() int {
	if !strings.HasPrefix(r.rest, "-") {
		return r.Num()
	}
	r.rest = r.rest[1:]
	// One more than MaxInt: as an int it wraps around to MinInt, which is its own opposite.
	n := r.digits(';', math.MaxInt+1)
	if n == 0 {
		r.fail()
	}
	return -n
}

// Text reads a string.
func (r *Reader) Text() string {
	n := r.digits(':', math.MaxInt)
	if n > len(r.rest) {
		r.fail()
		return ""
	}
	s := r.rest[:n]
	r.rest = r.rest[n:]
	r.mark(',')
	if r.failed {
		return ""
	}
	return s
}

// Nums reads a list of ints.
func (r *Reader) Nums() []int { return elements(r, r.Int) }

// Texts reads a list of strings.
func (r *Reader) Texts() []string { return elements(r, r.Text) }

// elements reads a list whose elements read reads.
func elements[T any](r *Reader, read func() T) []T {
	// The list grows as it is read: the length may promise more than the string has.
	var l []T
	for n := r.digits('[', math.MaxInt); n > 0 && !r.failed; n-- {
		l = append(l, read())
	}
	r.mark(']')
	if r.failed {
		return nil
	}
	return l
}

// Rest returns the bytes that have not been read, and moves the reader to the end.
func (r *Reader) Rest() string {
	s := r.rest
	r.rest = ""
	return s
}

// Left returns the number of bytes that have not been read.
func (r *Reader) Left() int { return len(r.rest) }

// Done reports whether the reader has not failed, and everything was read.
func (r *Reader) Done() bool { return !r.failed && r.rest == "" }

// fail makes this call and all later ones return nothing: nothing is left that they could read.
func (r *Reader) fail() {
	r.rest = ""
	r.failed = true
}

// digits reads the digits of an integer that is at most most, and the byte end after them; it returns 0 if it fails.
func (r *Reader) digits(end byte, most uint64) int {
	n, size := uint64(0), 0
	for size < len(r.rest) && isDigit(r.rest[size]) {
		d := uint64(r.rest[size] - '0')
		if n > (most-d)/10 {
			r.fail()
			return 0
		}
		n = n*10 + d
		size++
	}
	if size == 0 || size > 1 && r.rest[0] == '0' {
		r.fail()
		return 0
	}
	r.rest = r.rest[size:]
	r.mark(end)
	if r.failed {
		return 0
	}
	return int(n)
}

// mark reads the byte b.
func (r *Reader) mark(b byte) {
	if r.rest == "" || r.rest[0] != b {
		r.fail()
		return
	}
	r.rest = r.rest[1:]
}

func isDigit(b byte) bool { return '0' <= b && b <= '9' }
