package kv

import "klaxon/api"

// The bytes with which the steps of a record begin.
const (
	putMark  = 1
	dropMark = 2
)

// The numbers of bytes of a mark, and of the length of a key and of a value.
const (
	markSize        = 1
	keyLengthSize   = 1
	valueLengthSize = 2
)

// step gives a key a state.
type step struct {
	key string
	state
}

// fits reports whether the key and the value have numbers of bytes that are allowed.
func (s step) fits() bool {
	return len(s.key) >= 1 && len(s.key) <= api.MaxKey && len(s.value) <= api.MaxValue
}

// appendTo appends the bytes of a step to a record.
func (s step) appendTo(record []byte) []byte {
	if !s.there {
		return s.appendKey(record, dropMark)
	}
	record = s.appendKey(record, putMark)
	record = appendNumber(record, len(s.value), valueLengthSize)
	return append(record, s.value...)
}

func (s step) appendKey(record []byte, mark int) []byte {
	record = appendNumber(record, mark, markSize)
	record = appendNumber(record, len(s.key), keyLengthSize)
	return append(record, s.key...)
}

// appendNumber appends a number in so many bytes, the highest first.
func appendNumber(record []byte, n, size int) []byte {
	for i := size - 1; i >= 0; i-- {
		record = append(record, byte(n>>(8*i)))
	}
	return record
}

// reader reads the bytes of a record.
type reader struct {
	rest   []byte
	failed bool // the bytes are not those of steps
}

// step returns the step that comes next, or false if there is none. Its value is a piece of the record.
func (r *reader) step() (step, bool) {
	mark := r.number(markSize)
	s := step{key: string(r.take(r.number(keyLengthSize)))}
	switch mark {
	case putMark:
		s.value, s.there = r.take(r.number(valueLengthSize)), true
	case dropMark:
	default:
		r.failed = true
	}
	return s, !r.failed && s.fits()
}

// number returns the number in the next bytes.
func (r *reader) number(size int) int {
	n := 0
	for _, b := range r.take(size) {
		n = n<<8 | int(b)
	}
	return n
}

// take returns the next n bytes.
func (r *reader) take(n int) []byte {
	if n > len(r.rest) {
		r.failed = true
		return nil
	}
	b := r.rest[:n]
	r.rest = r.rest[n:]
	return b
}
