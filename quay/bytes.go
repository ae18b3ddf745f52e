package quay

import "strings"

// numberWidth is how many bytes most numbers have in a log. The greatest one is a time, of at most api.MaxTime.
const numberWidth = 2

// putNumber writes a number behind other data, its greatest byte first.
func putNumber(data []byte, n, width int) []byte {
	for i := width - 1; i >= 0; i-- {
		data = append(data, byte(n>>(8*i)))
	}
	return data
}

// putText writes a text of at most 255 bytes behind other data.
func putText(data []byte, text string) []byte {
	return append(append(data, byte(len(text))), text...)
}

// putNumbers writes numbers of the width that most have behind other data.
func putNumbers(data []byte, numbers ...int) []byte {
	for _, n := range numbers {
		data = putNumber(data, n, numberWidth)
	}
	return data
}

// number reads what putNumber wrote.
func number(text string) int {
	n := 0
	for i := range len(text) {
		n = n<<8 | int(text[i])
	}
	return n
}

// reader reads a text from its beginning on.
type reader struct {
	rest  string
	short bool // more was asked for than there was: what was told from then on is nothing
}

// take reads so many bytes.
func (r *reader) take(size int) string {
	if r.short || size > len(r.rest) {
		r.short = true
		return ""
	}
	part := r.rest[:size]
	r.rest = r.rest[size:]
	return part
}

// small reads a number of one byte.
func (r *reader) small() int { return number(r.take(1)) }

// number reads a number of the width that most have.
func (r *reader) number() int { return number(r.take(numberWidth)) }

// numbers reads numbers to the end of the text.
func (r *reader) numbers() []int {
	var list []int
	for r.rest != "" && !r.short {
		list = append(list, r.number())
	}
	return list
}

// text reads what putText wrote.
func (r *reader) text() string {
	// What is told may be kept for long: the text around it is not to be kept with it.
	return strings.Clone(r.take(r.small()))
}

// ended tells whether all was read, and not more.
func (r *reader) ended() bool { return r.rest == "" && !r.short }
