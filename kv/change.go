package kv

import (
	"bytes"
	"strings"

	"klaxon/api"
	"klaxon/wal"
)

// Change is steps that are done together.
type Change struct {
	store    *Store
	now      *moment // the one that differs is up to
	differs  states  // where what the change reads is unlike the contents of the store
	outdated bool    // another change was committed since this one began
	record   []byte
	steps    int
	finished bool
}

// Begin returns a change without steps.
func (s *Store) Begin() *Change {
	return &Change{store: s, now: s.now, differs: states{}}
}

// Put adds a step that sets the value of a key.
func (c *Change) Put(key string, value []byte) api.Errno {
	return c.add(step{key: key, state: state{value: value, there: true}})
}

// Drop adds a step that removes the value of a key.
func (c *Change) Drop(key string) api.Errno {
	return c.add(step{key: key})
}

// add adds a step, of which nothing is kept.
func (c *Change) add(s step) api.Errno {
	switch {
	case c.finished:
		return api.ErrOrder
	case !s.fits():
		return api.ErrSize
	case c.steps == api.MaxOps:
		return api.ErrFull
	}
	c.steps++
	c.record = s.appendTo(c.record)
	c.differs[strings.Clone(s.key)] = state{value: bytes.Clone(s.value), there: s.there}
	return api.OK
}

// Get returns the value of a key, with the steps so far, or false if it has none.
func (c *Change) Get(key string) ([]byte, bool) {
	c.catchUp()
	if s, ok := c.differs[key]; ok {
		return s.result()
	}
	return c.store.Get(key)
}

// Scan returns the keys that begin with prefix, with their values, with the steps so far, in ascending order.
func (c *Change) Scan(prefix string) []Pair { return c.within(prefix).scan("") }

// within returns the part of the contents whose keys begin with prefix, with the steps so far.
func (c *Change) within(prefix string) contents {
	c.catchUp()
	part := c.store.contents.within(prefix)
	for key, s := range c.differs {
		if strings.HasPrefix(key, prefix) {
			part.set(key, s)
		}
	}
	return part
}

// catchUp takes over what later commits have replaced, so that the change goes on with what was there when it began.
func (c *Change) catchUp() {
	for c.now.next != nil {
		for key, s := range c.now.replaced {
			if _, ok := c.differs[key]; !ok {
				c.differs[key] = s
			}
		}
		c.now, c.outdated = c.now.next, true
	}
}

// Cancel finishes a change.
func (c *Change) Cancel() { c.finished, c.record = true, nil }

// Commit makes a change permanent, unless it returns an error, and finishes it.
func (c *Change) Commit() api.Errno {
	defer c.Cancel()
	c.catchUp()
	switch {
	case c.finished || c.outdated:
		return api.ErrOrder
	case c.steps == 0:
		return api.OK
	case len(c.record) > api.MaxRecord:
		return api.ErrSize
	}
	if e := c.write(); e != api.OK {
		return e
	}
	c.store.take(c.differs)
	return api.OK
}

// write appends the record to the log, or, if there is no room for it, starts the log anew.
func (c *Change) write() api.Errno {
	log := c.store.log
	if wal.Cost(len(c.record)) <= log.Room() {
		return log.Append(c.record)
	}
	records := c.within("").records()
	// The log would return its ErrDown first.
	if cost(records) > c.store.capacity {
		return api.ErrSpace
	}
	return log.Anew(records)
}
