package quay

import (
	"errors"

	"quay/api"
	"quay/sums"
)

// A log is records, one for each call that changed something; one that Compact wrote begins with a record of all that was there.
// A record is two parts: its head (its kind, and how long its data are), then its data. Behind each part stands a sum.

// The kinds of records.
const (
	enqueued  = 'e' // the body
	joined    = 'g' // a group's name, its start
	received  = 'r' // a group's name, the offsets of what was delivered or died, in their order
	acked     = 'a' // a group's name, an offset
	retained  = 'f' // nothing
	compacted = 'c' // see snapshot
)

// How many bytes the length of a record's data has, and a sum.
const (
	sizeWidth = 3
	sumWidth  = 4
)

var (
	errCut   = errors.New("the text ends within a record")
	errWrong = errors.New("the text is no log")
)

// journal is a log that is being written.
// Its sum is that of all parts so far, not of each alone: so no record can be left out, doubled, or moved unseen.
type journal struct {
	text []byte
	sum  uint32
}

// newJournal begins a log. The configuration goes into its sum: it is no log to a queue of another one.
func newJournal(c api.Config) journal {
	return journal{sum: sums.Of(0, string(putNumbers(nil, c.Lease, c.Deliveries, c.Segment, c.Kept)))}
}

// add writes a record.
func (j *journal) add(kind byte, data string) {
	j.seal(string(putNumber([]byte{kind}, len(data), sizeWidth)))
	j.seal(data)
}

// addNamed writes a record of a group's name, and numbers.
func (j *journal) addNamed(kind byte, name string, numbers ...int) {
	j.add(kind, string(putNumbers(putText(nil, name), numbers...)))
}

// seal writes a part, and the sum behind it.
func (j *journal) seal(part string) {
	j.sum = sums.Of(j.sum, part)
	j.text = putNumber(append(j.text, part...), int(j.sum), sumWidth)
}

// scanner takes the records out of a log.
type scanner struct {
	reader
	sum uint32
}

// record takes the next record.
func (s *scanner) record() (kind byte, data string, err error) {
	// A head has a sum of its own: else a wrong length would look like a text that is cut off.
	head, err := s.part(1 + sizeWidth)
	if err != nil {
		return 0, "", err
	}
	data, err = s.part(number(head[1:]))
	return head[0], data, err
}

// part takes a part, and the sum behind it.
func (s *scanner) part(size int) (string, error) {
	part, told := s.take(size), s.take(sumWidth)
	if s.short {
		return "", errCut
	}
	s.sum = sums.Of(s.sum, part)
	if uint32(number(told)) != s.sum {
		return "", errWrong
	}
	return part, nil
}

// mayBeCut tells whether a log may end within a record of a kind.
// Not within what Compact wrote: what was ahead of it is written nowhere else.
func mayBeCut(kind byte) bool {
	switch kind {
	case enqueued, joined, received, acked, retained:
		return true
	}
	return false
}
