// Package crc is layer 2: see shared/doc/02-crc.md.
package crc

import (
	"carryover/api"
	"carryover/octet"
)

const (
	// The polynomial but for x^32, the highest power lowest.
	poly    = 0xedb88320
	sumSize = 4
)

// Table is what each byte does to a sum.
type Table [256]uint32

// Make: the table.
func Make() *Table {
	var t Table
	for b := range t {
		t[b] = moveByte(uint32(b))
	}
	return &t
}

func moveByte(sum uint32) uint32 {
	for range 8 {
		out := sum & 1
		sum >>= 1
		if out == 1 {
			sum ^= poly
		}
	}
	return sum
}

// More: a sum, and a text behind.
func (t *Table) More(sum uint32, s string) uint32 {
	// A sum that is told was turned over at last, one that goes on isn't yet.
	sum = ^sum
	for k := range len(s) {
		sum = t[byte(sum)^s[k]] ^ sum>>8
	}
	return ^sum
}

// Sum: of all texts, one behind the other.
func (t *Table) Sum(parts ...string) uint32 {
	var sum uint32
	for _, part := range parts {
		sum = t.More(sum, part)
	}
	return sum
}

// Seal: a text, and its sum behind it.
func (t *Table) Seal(s string) string {
	return string(octet.Word([]byte(s), t.Sum(s)))
}

// Open: what was sealed.
func (t *Table) Open(s string) (string, api.Errno) {
	if len(s) < sumSize {
		return "", api.ErrEnd
	}
	end := len(s) - sumSize
	if octet.Of(s[end:]).Word() != t.Sum(s[:end]) {
		return "", api.ErrSum
	}
	return s[:end], api.OK
}
