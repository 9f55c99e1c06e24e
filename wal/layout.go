package wal

import (
	"bytes"

	"klaxon/api"
	"klaxon/crc"
)

const (
	numberSize = 4

	// A head and a record both have their mark after two numbers.
	markAt = 2 * numberSize

	headSize   = 16
	recordHead = markAt + 1

	greatestGeneration = 1<<31 - 1

	off byte = 0
	on  byte = 1
)

// Cost returns the number of bytes of a record with a payload of n bytes, or 0 if there is no such record.
func Cost(n int) int {
	if n < 1 || n > api.MaxRecord {
		return 0
	}
	return recordHead + n
}

// head returns the head of a half.
func head(generation int, mark byte) []byte {
	b := make([]byte, headSize)
	number := crc.Put(uint32(generation))
	copy(b, number)
	copy(b[numberSize:], crc.Put(crc.Sum(number)))
	b[markAt] = mark
	return b
}

// generationOf returns the generation of a half, or 0 if the half does not count.
func generationOf(half []byte) int {
	number := half[:numberSize]
	generation, _ := crc.Get(number)
	sum, _ := crc.Get(half[numberSize:markAt])
	if half[markAt] != on || generation > greatestGeneration || sum != crc.Sum(number) {
		return 0
	}
	return int(generation)
}

// record returns the record that begins at the offset at of a half.
func record(generation, at int, payload []byte, mark byte) []byte {
	b := make([]byte, Cost(len(payload)))
	copy(b, crc.Put(uint32(len(payload))))
	copy(b[numberSize:], crc.Put(recordSum(generation, at, payload)))
	b[markAt] = mark
	copy(b[recordHead:], payload)
	return b
}

// recordSum binds a payload to its generation and place, so that no remnant of another record passes for one.
func recordSum(generation, at int, payload []byte) uint32 {
	return crc.Sum(crc.Put(uint32(generation)), crc.Put(uint32(at)), crc.Put(uint32(len(payload))), payload)
}

// payloadAt returns the payload of the record at the offset at of a half, or nil if none is there.
func payloadAt(half []byte, generation, at int) []byte {
	b := half[at:]
	if len(b) < recordHead {
		return nil
	}
	length, _ := crc.Get(b[:numberSize])
	cost := Cost(int(length))
	if cost == 0 || cost > len(b) || b[markAt] != on {
		return nil
	}
	payload := b[recordHead:cost]
	if sum, _ := crc.Get(b[numberSize:markAt]); sum != recordSum(generation, at, payload) {
		return nil
	}
	return bytes.Clone(payload)
}

// isBlank reports whether all bytes are 0.
func isBlank(b []byte) bool {
	for _, x := range b {
		if x != 0 {
			return false
		}
	}
	return true
}
