// Package sums: the sum (CRC-32) by which a log tells whether it is as it was written.
package sums

// polynomial is that of the common CRC-32, its greatest power in the lowest bit.
const polynomial = 0xedb88320

// sumTable has what each half of a byte adds to a sum.
var sumTable [16]uint32

func init() {
	for i := range sumTable {
		sumTable[i] = shift(uint32(i), 4)
	}
}

// Of goes on with a sum (at first 0) over a text: that of two texts, one behind the other, is the same in two steps as in one.
// It works bit by bit, so that it hangs on no variable.
func Of(from uint32, text string) uint32 {
	s := ^from
	for i := range len(text) {
		s = shift(s^uint32(text[i]), 8)
	}
	return ^s
}

// ByTable tells the same as Of, but by the table, half a byte at a time.
func ByTable(from uint32, text string) uint32 {
	s := ^from
	for i := range len(text) {
		s ^= uint32(text[i])
		s = s>>4 ^ sumTable[s&15]
		s = s>>4 ^ sumTable[s&15]
	}
	return ^s
}

// shift lets the lowest bits go out of a sum, and adds what those that were set stand for.
func shift(s uint32, bits int) uint32 {
	for range bits {
		odd := s & 1
		s = s>>1 ^ odd*polynomial
	}
	return s
}
