package kv

import (
	"bytes"
	"slices"
	"strings"

	"klaxon/api"
)

// contents are values by keys. The bytes of a value never change, so that several contents may share them.
type contents map[string][]byte

// state is the value that a key has, if it is there.
type state struct {
	value []byte
	there bool
}

// states are those of some keys.
type states map[string]state

// result returns what a caller gets.
func (s state) result() ([]byte, bool) { return bytes.Clone(s.value), s.there }

// of returns the state of a key.
func (c contents) of(key string) state {
	value, ok := c[key]
	return state{value: value, there: ok}
}

// set gives a key a state.
func (c contents) set(key string, s state) {
	if s.there {
		c[key] = s.value
	} else {
		delete(c, key)
	}
}

// replay does the steps of a record, and reports whether it is that of a change.
func (c contents) replay(record []byte) bool {
	r := reader{rest: record}
	for len(r.rest) > 0 {
		s, ok := r.step()
		if !ok {
			return false
		}
		c.set(s.key, state{value: bytes.Clone(s.value), there: s.there})
	}
	return true
}

// records returns the records of a log that is started anew.
func (c contents) records() [][]byte {
	var records [][]byte
	var record []byte
	for _, p := range c.scan("") {
		b := step{key: p.Key, state: state{value: p.Value, there: true}}.appendTo(nil)
		if len(record)+len(b) > api.MaxRecord {
			records, record = append(records, record), nil
		}
		record = append(record, b...)
	}
	if len(record) > 0 {
		records = append(records, record)
	}
	return records
}

// within returns the part whose keys begin with prefix.
func (c contents) within(prefix string) contents {
	part := contents{}
	for key, value := range c {
		if strings.HasPrefix(key, prefix) {
			part[key] = value
		}
	}
	return part
}

func (c contents) scan(prefix string) []Pair {
	return c.pairs(c.keys(func(key string) bool { return strings.HasPrefix(key, prefix) }))
}

func (c contents) between(from, to string, most int) []Pair {
	keys := c.keys(func(key string) bool { return key >= from && key < to })
	return c.pairs(keys[:min(len(keys), max(0, most))])
}

// keys returns the keys that are wanted, in ascending order.
func (c contents) keys(wanted func(key string) bool) []string {
	var keys []string
	for key := range c {
		if wanted(key) {
			keys = append(keys, key)
		}
	}
	slices.Sort(keys)
	return keys
}

// pairs returns copies of keys, with copies of their values.
func (c contents) pairs(keys []string) []Pair {
	var pairs []Pair
	for _, key := range keys {
		pairs = append(pairs, Pair{Key: strings.Clone(key), Value: bytes.Clone(c[key])})
	}
	return pairs
}

func (c contents) edge(from string, back bool) (string, bool) {
	edge, found := "", false
	for key := range c {
		// Backwards, what is less than from is asked for, and the greatest of it; forwards, the rest, and its least.
		if (key < from) == back && (!found || (key > edge) == back) {
			edge, found = key, true
		}
	}
	return strings.Clone(edge), found
}

func (c contents) size() int {
	n := 0
	for key, value := range c {
		n += len(key) + len(value)
	}
	return n
}
