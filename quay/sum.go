package quay

// sumTable has what each half of a byte adds to a sum.
var sumTable [16]uint32

func init() {
	const polynomial = 0xedb88320
	for i := range sumTable {
		s := uint32(i)
		for range 4 {
			odd := s & 1
			s = s>>1 ^ odd*polynomial
		}
		sumTable[i] = s
	}
}

// sum goes on with a sum (CRC-32) over a text: that of two texts, one behind the other, is the same in two steps as in one.
func sum(from uint32, text string) uint32 {
	s := ^from
	for i := range len(text) {
		s ^= uint32(text[i])
		s = s>>4 ^ sumTable[s&15]
		s = s>>4 ^ sumTable[s&15]
	}
	return ^s
}
