// Package octet is layer 1: see shared/doc/01-octet.md.
package octet

import (
	"math"

	"carryover/api"
)

const (
	wordSize = 4
	longSize = 8
	// A number below 2^64 needs ten bytes at most, and of the tenth one bit.
	lastPlace = 9
	lastMost  = 1
)

// Num: a number, seven bits a byte, the lowest first.
func Num(b []byte, n uint64) []byte {
	for n >= 0x80 {
		b = append(b, byte(n)|0x80)
		n >>= 7
	}
	return append(b, byte(n))
}

// Int: a number that may be below 0.
func Int(b []byte, n int64) []byte {
	if n < 0 {
		// ^n is -n less 1, and there is one for the lowest n too.
		return Num(b, uint64(^n)*2+1)
	}
	return Num(b, uint64(n)*2)
}

// Str: a text, behind how many bytes it has.
func Str(b []byte, s string) []byte {
	return append(Num(b, uint64(len(s))), s...)
}

// Word: a number of 32 bits, the lowest byte first.
func Word(b []byte, n uint32) []byte {
	return lowFirst(b, n, wordSize)
}

// Long: a number of 64 bits, the lowest byte first.
func Long(b []byte, n uint64) []byte {
	return lowFirst(b, n, longSize)
}

func lowFirst[T uint32 | uint64](b []byte, n T, size int) []byte {
	for k := range size {
		b = append(b, byte(n>>(8*k)))
	}
	return b
}

func fromLowFirst[T uint32 | uint64](s string) T {
	var n T
	for k := range len(s) {
		n |= T(s[k]) << (8 * k)
	}
	return n
}

// In is bytes that are taken, and the first error.
type In struct {
	left string
	err  api.Errno
}

// Of: of a text.
func Of(s string) *In {
	return &In{left: s}
}

// Err: the first error.
func (i *In) Err() api.Errno {
	return i.err
}

// Left: how many bytes are left; 0: there was an error.
func (i *In) Left() int {
	return len(i.left)
}

// Bytes: so many.
func (i *In) Bytes(n int) string {
	if n < 1 {
		return ""
	}
	if n > len(i.left) {
		i.fail(api.ErrEnd)
		return ""
	}
	return i.take(n)
}

// Byte: one.
func (i *In) Byte() byte {
	s := i.Bytes(1)
	if s == "" {
		return 0
	}
	return s[0]
}

// Num: a number of at most some size.
func (i *In) Num(most uint64) uint64 {
	n, size, err := firstNum(i.left)
	if err == api.OK && n > most {
		err = api.ErrBig
	}
	if err != api.OK {
		i.fail(err)
		return 0
	}
	i.take(size)
	return n
}

// Int: a number that may be below 0.
func (i *In) Int() int64 {
	n := i.Num(math.MaxUint64)
	half := int64(n / 2)
	if n%2 == 1 {
		return ^half
	}
	return half
}

// Str: a text of at most so many bytes.
func (i *In) Str(most int) string {
	return i.Bytes(int(i.Num(uint64(max(most, 0)))))
}

// Word: a number of 32 bits.
func (i *In) Word() uint32 {
	return fromLowFirst[uint32](i.Bytes(wordSize))
}

// Long: a number of 64 bits.
func (i *In) Long() uint64 {
	return fromLowFirst[uint64](i.Bytes(longSize))
}

// Rest: all that is left.
func (i *In) Rest() string {
	return i.take(len(i.left))
}

// End: the first error; ErrForm: bytes are left.
func (i *In) End() api.Errno {
	if len(i.left) > 0 {
		i.fail(api.ErrForm)
	}
	return i.err
}

func (i *In) take(n int) string {
	s := i.left[:n]
	i.left = i.left[n:]
	return s
}

// fail leaves nothing, so that no later call has anything to take.
func (i *In) fail(err api.Errno) {
	if i.err == api.OK {
		i.err = err
	}
	i.left = ""
}

// firstNum: the number that s begins with, and how many bytes it has.
func firstNum(s string) (uint64, int, api.Errno) {
	var n uint64
	for k := range len(s) {
		c := s[k]
		if k == lastPlace && c > lastMost {
			return 0, 0, api.ErrForm
		}
		if k > 0 && c == 0 {
			// A last byte without a bit: one byte less would have done.
			return 0, 0, api.ErrForm
		}
		n |= uint64(c&0x7f) << (7 * k)
		if c < 0x80 {
			return n, k + 1, api.OK
		}
	}
	return 0, 0, api.ErrEnd
}
