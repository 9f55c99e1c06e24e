package kv_test

import (
	"bytes"
	"slices"
	"testing"

	"klaxon/api"
	"klaxon/disk"
	"klaxon/kv"
	"klaxon/wal"
)

// model is what a store has, as the chapter tells it: pairs in ascending order of their keys. It is never changed.
type model []kv.Pair

// after returns what is there after these steps.
func (m model) after(steps ...step) model {
	l := slices.Clone(m)
	for _, s := range steps {
		l = slices.DeleteFunc(l, func(p kv.Pair) bool { return p.Key == s.key })
		if !s.drop {
			at := 0
			for at < len(l) && l[at].Key < s.key {
				at++
			}
			l = slices.Insert(l, at, kv.Pair{Key: s.key, Value: s.value})
		}
	}
	return l
}

// those returns the pairs whose keys are wanted.
func (m model) those(wanted func(key string) bool) model {
	var l model
	for _, p := range m {
		if wanted(p.Key) {
			l = append(l, p)
		}
	}
	return l
}

// begins reports whether a key begins with prefix.
func begins(key, prefix string) bool { return len(key) >= len(prefix) && key[:len(prefix)] == prefix }

func (m model) scan(prefix string) model {
	return m.those(func(key string) bool { return begins(key, prefix) })
}

func (m model) between(from, to string, most int) model {
	l := m.those(func(key string) bool { return from <= key && key < to })
	if most < 0 {
		return nil
	}
	if len(l) > most {
		return l[:most]
	}
	return l
}

func (m model) get(key string) ([]byte, bool) {
	for _, p := range m {
		if p.Key == key {
			return p.Value, true
		}
	}
	return nil, false
}

func (m model) edge(from string, back bool) (string, bool) {
	key, ok := "", false
	for _, p := range m {
		if back && p.Key < from || !back && p.Key >= from && !ok {
			key, ok = p.Key, true
		}
	}
	return key, ok
}

func (m model) size() int {
	n := 0
	for _, p := range m {
		n += len(p.Key) + len(p.Value)
	}
	return n
}

// records returns the records of a log that is started anew.
func (m model) records() [][]byte {
	var records [][]byte
	for _, p := range m {
		b := recordBytes(putBytes(p.Key, p.Value))
		last := len(records) - 1
		if last < 0 || len(records[last])+len(b) > 65536 {
			records = append(records, b)
		} else {
			records[last] = append(records[last], b...)
		}
	}
	return records
}

func costs(records [][]byte) int {
	n := 0
	for _, b := range records {
		n += wal.Cost(len(b))
	}
	return n
}

// twin does to the log on a disk what the chapter says of the commit of a change, which is one of those that may be
// committed, and returns the error.
func (m model) twin(l *wal.Log, size int, steps []step) api.Errno {
	if len(steps) == 0 {
		return api.OK
	}
	record := recordBytes(steps...)
	if len(record) > 65536 {
		return api.ErrSize
	}
	if wal.Cost(len(record)) <= l.Room() {
		return l.Append(record)
	}
	records := m.after(steps...).records()
	if costs(records) > size/2-16 {
		return api.ErrSpace
	}
	return l.Anew(records)
}

func samePair(a, b kv.Pair) bool { return a.Key == b.Key && bytes.Equal(a.Value, b.Value) }

// reads is what a store and a change have in common.
type reads interface {
	Get(key string) ([]byte, bool)
	Scan(prefix string) []kv.Pair
}

// reading reports where a store or a change does not read as the model, for these keys and prefixes.
func reading(t *testing.T, r reads, m model, probes ...string) {
	t.Helper()
	for _, p := range probes {
		value, ok := r.Get(p)
		want, there := m.get(p)
		if ok != there || !bytes.Equal(value, want) || !ok && value != nil {
			t.Fatalf("Get(%.50q): %.50q, %v; want %.50q, %v", p, value, ok, want, there)
		}
		if got, want := r.Scan(p), m.scan(p); !slices.EqualFunc(got, want, samePair) {
			t.Fatalf("Scan(%.50q): %d pairs %.200q, want %d: %.200q", p, len(got), got, len(want), want)
		}
	}
}

// has reports where a store does not have just what the model has.
func has(t *testing.T, s *kv.Store, m model) {
	t.Helper()
	reading(t, s, m, "")
	for _, p := range m {
		if value, ok := s.Get(p.Key); !ok || !bytes.Equal(value, p.Value) {
			t.Fatalf("Get(%.50q): %.50q, %v; want %.50q", p.Key, value, ok, p.Value)
		}
	}
	if s.Len() != len(m) || s.Size() != m.size() {
		t.Fatalf("Len and Size: %d, %d; want %d, %d", s.Len(), s.Size(), len(m), m.size())
	}
}

// kept reports a disk on which, when it is opened again, there is not just what the model has.
func kept(t *testing.T, d *disk.Disk, m model) {
	t.Helper()
	has(t, open(t, started(d)), m)
}

// filled returns a store on a new disk, and the disk, after a change with these steps, and the model of it.
func filled(t *testing.T, size int, steps ...step) (*kv.Store, *disk.Disk, model) {
	t.Helper()
	d := blank(t, size)
	s := open(t, d)
	for part := range slices.Chunk(steps, 8) {
		do(t, s, part...)
	}
	m := model(nil).after(steps...)
	has(t, s, m)
	return s, d, m
}
