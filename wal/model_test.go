package wal_test

import (
	"bytes"
	"encoding/binary"
	"hash/crc32"

	"klaxon/api"
)

// model is a log as the chapter tells it: all bytes of its disk, and what the log has.
type model struct {
	data       []byte
	start      int // of the half of the log
	generation int
	records    [][]byte
	dead       bool
}

// write is one write to the disk.
type write struct {
	at int
	b  []byte
}

func number(n uint32) []byte { return binary.BigEndian.AppendUint32(nil, n) }

// headBytes returns a head with the right checksum.
func headBytes(generation uint32, mark byte) []byte {
	b := binary.BigEndian.AppendUint32(number(generation), crc32.ChecksumIEEE(number(generation)))
	return append(b, mark, 0, 0, 0, 0, 0, 0, 0)
}

// recordBytes returns a record with the right checksum for a generation and an offset.
func recordBytes(generation uint32, at int, payload []byte, mark byte) []byte {
	length := number(uint32(len(payload)))
	sum := crc32.ChecksumIEEE(bytes.Join([][]byte{number(generation), number(uint32(at)), length, payload}, nil))
	return bytes.Join([][]byte{length, number(sum), {mark}, payload}, nil)
}

// blockBytes returns records one after the other, from the offset at of a half on.
func blockBytes(generation uint32, at int, records [][]byte) []byte {
	var b []byte
	for _, payload := range records {
		b = append(b, recordBytes(generation, at+len(b), payload, 1)...)
	}
	return b
}

// halfBytes returns a half of that size.
func halfBytes(size int, generation uint32, mark byte, records ...[]byte) []byte {
	half := make([]byte, size)
	copy(half, headBytes(generation, mark))
	if block := blockBytes(generation, 16, records); len(block) > copy(half[16:], block) {
		panic("the records do not fit into the half")
	}
	return half
}

// both returns a disk's bytes with these halves.
func both(first, second []byte) []byte { return bytes.Join([][]byte{first, second}, nil) }

func (m *model) half() int { return len(m.data) / 2 }

// room returns what the chapter calls the room.
func (m *model) room() int {
	n := m.half() - 16
	for _, payload := range m.records {
		n -= 9 + len(payload)
	}
	return n
}

// counts returns the generation of the half that begins at start, if it counts.
func (m *model) counts(start int) (int, bool) {
	generation := binary.BigEndian.Uint32(m.data[start:])
	sum := binary.BigEndian.Uint32(m.data[start+4:])
	ok := m.data[start+8] == 1 && generation >= 1 && generation <= 1<<31-1 && sum == crc32.ChecksumIEEE(m.data[start:start+4])
	return int(generation), ok
}

// there returns the payload of the record at an offset of the half of the log.
func (m *model) there(at int) ([]byte, bool) {
	half := m.data[m.start : m.start+m.half()]
	if at+9 > len(half) {
		return nil, false
	}
	length := int(binary.BigEndian.Uint32(half[at:]))
	if length < 1 || length > 65536 || at+9+length > len(half) {
		return nil, false
	}
	payload := half[at+9 : at+9+length]
	return payload, bytes.Equal(half[at:at+9], recordBytes(uint32(m.generation), at, payload, 1)[:9])
}

// zeros returns the write that makes a range of the disk zeros, if it contains anything else.
func (m *model) zeros(from, to int) []write {
	none := make([]byte, to-from)
	if bytes.Equal(m.data[from:to], none) {
		return nil
	}
	return []write{{from, none}}
}

// opened returns the model of a log that is opened on these bytes, before its writes, which it returns as well.
func opened(data []byte) (*model, []write) {
	m := &model{data: bytes.Clone(data)}
	one, first := m.counts(0)
	two, second := m.counts(m.half())
	if !first && !second {
		m.generation = 1
		return m, append(m.zeros(0, m.half()), write{0, headBytes(1, 0)}, write{8, []byte{1}})
	}
	m.generation = one
	if !first || second && two > one {
		m.start, m.generation = m.half(), two
	}
	at := 16
	for {
		payload, ok := m.there(at)
		if !ok {
			return m, m.zeros(m.start+at, m.start+m.half())
		}
		m.records = append(m.records, bytes.Clone(payload))
		at += 9 + len(payload)
	}
}

// appended returns the error of Append, or the writes of it.
func (m *model) appended(b []byte) (api.Errno, []write) {
	switch {
	case m.dead:
		return api.ErrDown, nil
	case len(b) == 0 || len(b) > 65536:
		return api.ErrSize, nil
	case len(b)+9 > m.room():
		return api.ErrSpace, nil
	}
	at := m.half() - m.room()
	return api.OK, []write{
		{m.start + at, recordBytes(uint32(m.generation), at, b, 0)},
		{m.start + at + 8, []byte{1}},
	}
}

// other returns where the other half begins.
func (m *model) other() int {
	if m.start == 0 {
		return m.half()
	}
	return 0
}

// anew returns the error of Anew, or the writes of it.
func (m *model) anew(records [][]byte) (api.Errno, []write) {
	if m.dead {
		return api.ErrDown, nil
	}
	total := 0
	for _, payload := range records {
		if len(payload) == 0 || len(payload) > 65536 {
			return api.ErrSize, nil
		}
		total += 9 + len(payload)
	}
	switch {
	case total > m.half()-16:
		return api.ErrSpace, nil
	case m.generation == 1<<31-1:
		return api.ErrFull, nil
	}
	other, next := m.other(), uint32(m.generation+1)
	writes := append([]write{{other + 8, []byte{0}}}, m.zeros(other+16, other+m.half())...)
	if len(records) > 0 {
		writes = append(writes, write{other + 16, blockBytes(next, 16, records)})
	}
	return api.OK, append(writes, write{other, headBytes(next, 0)}, write{other + 8, []byte{1}})
}

// take makes the model one whose Append or Anew has returned OK.
func (m *model) take(writes []write, records [][]byte, anew bool) {
	m.data = laid(m.data, writes)
	if !anew {
		m.records = append(m.records, records...)
		return
	}
	m.start, m.generation, m.records = m.other(), m.generation+1, records
}

// laid returns a copy of data with these writes.
func laid(data []byte, writes []write) []byte {
	out := bytes.Clone(data)
	for _, w := range writes {
		copy(out[w.at:w.at+len(w.b)], w.b)
	}
	return out
}
