package kv_test

import (
	"fmt"
	"math/rand"
	"slices"
	"strings"
	"testing"

	"klaxon/api"
	"klaxon/kv"
)

// sized returns a step with a key and a value of so many bytes.
func sized(key, value int) step { return putBytes(strings.Repeat("k", key), some(value)) }

// P9.2: what keys and values may be put, and what keys dropped; what may not adds no step.
func TestSizes(t *testing.T) {
	keys := map[int]bool{0: false, 1: true, 2: true, 127: true, 128: true, 129: false, 200: false, 255: false, 256: false, 257: false, 1 << 16: false, 1<<16 + 1: false}
	values := map[int]bool{0: true, 1: true, 255: true, 256: true, 4095: true, 4096: true, 4097: false, 8192: false, 1 << 16: false, 1<<16 + 1: false}
	for key, keyFits := range keys {
		for value, valueFits := range values {
			s, d, _ := filled(t, 1<<16)
			c := begun(t, s, put("first", "x"))
			m, want := model(nil).after(put("first", "x")), api.ErrSize
			if keyFits && valueFits {
				m, want = m.after(sized(key, value)), api.OK
			}
			adds(t, c, sized(key, value), want)
			reading(t, c, m, "", "first", strings.Repeat("k", key))
			commits(t, c, api.OK)
			has(t, s, m)
			kept(t, d, m)
		}
		s, d, m := filled(t, 1<<16, put("first", "x"), sized(min(max(key, 1), 128), 5))
		c := begun(t, s, put("second", "x"))
		m, want := m.after(put("second", "x")), api.ErrSize
		if keyFits {
			m, want = m.after(drop(strings.Repeat("k", key))), api.OK
		}
		adds(t, c, drop(strings.Repeat("k", key)), want)
		reading(t, c, m, "", "first", strings.Repeat("k", key))
		commits(t, c, api.OK)
		has(t, s, m)
		kept(t, d, m)
	}
}

// P9.2: a change has at most MaxOps steps, be they put or dropped, of one key or of several; one more adds nothing.
func TestMaxOps(t *testing.T) {
	for _, of := range []func(i int) step{
		func(i int) step { return put(fmt.Sprint("key ", i), "v") },
		func(i int) step { return drop(fmt.Sprint("key ", i)) },
		func(i int) step { return put("one", fmt.Sprint(i)) },
		func(i int) step { return []step{put("a", "x"), drop("a"), drop("b")}[i%3] },
	} {
		s, d, m := filled(t, 1<<14, put("key 1", "old"), put("key 70", "old"))
		c := s.Begin()
		for i := range 64 {
			adds(t, c, of(i), api.OK)
			m = m.after(of(i))
			reading(t, c, m, "", "one", "key 1")
		}
		for _, more := range []step{put("more", "v"), put("one", "v"), drop("key 70"), drop("none")} {
			adds(t, c, more, api.ErrFull)
		}
		reading(t, c, m, "", "more", "one", "key 70", "none")
		commits(t, c, api.OK)
		has(t, s, m)
		kept(t, d, m)
	}
}

// P9.2: which error comes first: ErrOrder, then ErrSize, then ErrFull; no such step has an effect on the later ones.
func TestOrderOfErrors(t *testing.T) {
	wrong := []step{put("", ""), put("", "v"), sized(129, 0), sized(1, 4097), sized(0, 4097), sized(129, 4097), drop(""), drop(long("k", 129))}
	right := []step{put("k", "v"), drop("k"), sized(128, 4096)}
	s, _, _ := filled(t, 1<<14)
	c := s.Begin()
	for range 2 {
		for _, x := range wrong {
			adds(t, c, x, api.ErrSize)
		}
	}
	reading(t, c, nil, "", "k")
	for range 64 {
		adds(t, c, put("k", "v"), api.OK)
		for _, x := range wrong {
			adds(t, c, x, api.ErrSize)
		}
	}
	for _, x := range right {
		adds(t, c, x, api.ErrFull)
	}
	c.Cancel()
	for _, x := range append(wrong, right...) {
		adds(t, c, x, api.ErrOrder)
	}
}

// endings are the ways in which a change may be finished, each with the error of Commit.
func endings(t *testing.T, s *kv.Store) map[string]func(c *kv.Change) {
	return map[string]func(c *kv.Change){
		"Cancel": func(c *kv.Change) { c.Cancel() },
		"Commit": func(c *kv.Change) { commits(t, c, api.OK) },
		"outdated": func(c *kv.Change) {
			do(t, s, put("meanwhile", "x"))
			commits(t, c, api.ErrOrder)
		},
		"Cancel and Commit": func(c *kv.Change) {
			c.Cancel()
			commits(t, c, api.ErrOrder)
			c.Cancel()
		},
	}
}

// P9.2, P9.3: nothing can be added to a finished change, however it was finished, and with or without steps.
func TestFinished(t *testing.T) {
	for name := range endings(t, nil) {
		for _, steps := range [][]step{nil, {put("a", "y")}, {drop("a"), put("b", "z")}} {
			s, d, m := filled(t, 4096, put("a", "x"))
			c := begun(t, s, steps...)
			endings(t, s)[name](c)
			writes, now := d.Writes(), model(s.Scan(""))
			adds(t, c, put("a", "late"), api.ErrOrder)
			adds(t, c, put("", "late"), api.ErrOrder)
			adds(t, c, drop("a"), api.ErrOrder)
			adds(t, c, drop(""), api.ErrOrder)
			commits(t, c, api.ErrOrder)
			c.Cancel()
			commits(t, c, api.ErrOrder)
			reading(t, c, m.after(steps...), "", "a", "b", "meanwhile")
			has(t, s, now)
			if d.Writes() != writes {
				t.Errorf("%s: a finished change writes", name)
			}
			do(t, s, put("after", "x"))
			reading(t, c, m.after(steps...), "", "a", "b", "meanwhile", "after")
		}
	}
}

// P9.2: the steps so far, of one key that is put, dropped and put again, and of others; the store does not have them.
func TestStepsSoFar(t *testing.T) {
	s, _, m := filled(t, 4096, put("a", "old a"), put("ab", "old ab"), put("b", "old b"))
	c := s.Begin()
	now := m
	for _, x := range []step{
		put("a", "new"), drop("a"), put("a", "newer"), put("ab", ""), drop("b"), put("aa", "aa"), drop("aa"), drop("none"), put("none", "now"),
		drop("ab"), drop("ab"), put("b", "again"), put("b", "and again"), put("\x00", "first"), put("\xff", "last"), drop("a"),
	} {
		adds(t, c, x, api.OK)
		now = now.after(x)
		reading(t, c, now, "", "a", "ab", "aa", "abc", "b", "none", "\x00", "\xff", "n", "zz")
		has(t, s, m)
	}
	commits(t, c, api.OK)
	has(t, s, now)
}

// P9.2: a change reads what was there when it began, whatever others committed meanwhile, and with its own steps.
func TestReadsAsOfBegin(t *testing.T) {
	s, _, m := filled(t, 1<<14, put("a", "1"), put("b", "2"), put("c", "3"), put("d", "4"))
	all := []string{"", "a", "b", "c", "d", "e", "f", "g"}
	bare, early := s.Begin(), begun(t, s, put("b", "mine"), drop("c"), put("f", "mine"))
	with := m.after(put("b", "mine"), drop("c"), put("f", "mine"))
	do(t, s, put("a", "new"), put("b", "new"), drop("d"), put("e", "new"), put("f", "new"))
	second, late := begun(t, s), m.after(put("a", "new"), put("b", "new"), drop("d"), put("e", "new"), put("f", "new"))
	reading(t, bare, m, all...)
	reading(t, early, with, all...)
	do(t, s, put("a", "newest"), drop("b"), put("c", "newest"), put("d", "newest"), drop("e"), put("g", "newest"))
	reading(t, bare, m, all...)
	reading(t, early, with, all...)
	reading(t, second, late, all...)
	has(t, s, late.after(put("a", "newest"), drop("b"), put("c", "newest"), put("d", "newest"), drop("e"), put("g", "newest")))
	add(t, early, put("a", "mine"), drop("f"), put("d", "mine"), put("e", "mine"))
	with = with.after(put("a", "mine"), drop("f"), put("d", "mine"), put("e", "mine"))
	reading(t, early, with, all...)
	do(t, s, drop("a"), drop("c"), drop("d"), drop("g"))
	has(t, s, model(nil).after(put("f", "new")))
	reading(t, early, with, all...)
	reading(t, bare, m, all...)
	reading(t, second, late, all...)
	for _, c := range []*kv.Change{bare, early, second} {
		commits(t, c, api.ErrOrder)
	}
	reading(t, early, with, all...)
	reading(t, bare, m, all...)
}

// P9.2: whatever is read first, after several other changes of the same keys, is what was there when the change began.
func TestFirstRead(t *testing.T) {
	for _, steps := range [][]step{nil, {put("b", "mine"), drop("c"), put("bb", "mine")}} {
		for commits := range 5 {
			s, _, m := filled(t, 1<<14, put("a", "1"), put("b", "2"), put("c", "3"))
			var gets, scans []*kv.Change
			keys := []string{"", "a", "b", "c", "d", "bb", "a1", "a2", "a3"}
			for range keys {
				gets, scans = append(gets, begun(t, s, steps...)), append(scans, begun(t, s, steps...))
			}
			m = m.after(steps...)
			for i := range commits {
				do(t, s, put("a", fmt.Sprint("new ", i)), put(fmt.Sprint("a", i), "new"), drop("b"))
				do(t, s, put("b", fmt.Sprint("new ", i)), drop("c"), put("d", "new"))
			}
			for i, key := range keys {
				value, ok := gets[i].Get(key)
				if want, there := m.get(key); string(value) != string(want) || ok != there {
					t.Fatalf("Get(%q) after %d others: %q, %v; want %q, %v", key, commits, value, ok, want, there)
				}
				if got, want := scans[i].Scan(key), m.scan(key); !slices.EqualFunc(got, want, samePair) {
					t.Fatalf("Scan(%q) after %d others: %q, want %q", key, commits, got, want)
				}
			}
		}
	}
}

// P9.2: steps that are added only after others were committed are steps on what was there when the change began.
func TestStepsAfterOthers(t *testing.T) {
	s, _, m := filled(t, 4096, put("a", "1"), put("b", "2"), put("c", "3"))
	c := s.Begin()
	do(t, s, put("a", "new"), drop("b"), put("d", "new"))
	add(t, c, drop("a"), put("b", "mine"))
	do(t, s, put("a", "newer"), put("b", "newer"), put("c", "newer"))
	reading(t, c, m.after(drop("a"), put("b", "mine")), "", "a", "b", "c", "d")
}

// P9.2: a change that was committed reads on what it read, also after the same keys were changed again.
func TestReadsAfterCommit(t *testing.T) {
	s, _, m := filled(t, 4096, put("a", "1"), put("b", "2"))
	c := begun(t, s, put("a", "mine"), drop("b"), put("c", "mine"))
	with := m.after(put("a", "mine"), drop("b"), put("c", "mine"))
	commits(t, c, api.OK)
	for _, x := range []step{put("a", "new"), put("b", "new"), drop("c"), put("d", "new"), drop("a"), drop("d")} {
		do(t, s, x)
		reading(t, c, with, "", "a", "b", "c", "d")
	}
}

// P9.2: two changes do not see each other's steps.
func TestChangesApart(t *testing.T) {
	s, _, m := filled(t, 4096, put("a", "1"))
	one, two := begun(t, s, put("a", "one"), put("b", "one")), begun(t, s, drop("a"), put("c", "two"))
	reading(t, one, m.after(put("a", "one"), put("b", "one")), "", "a", "b", "c")
	reading(t, two, m.after(drop("a"), put("c", "two")), "", "a", "b", "c")
	one.Cancel()
	commits(t, two, api.OK)
	has(t, s, m.after(drop("a"), put("c", "two")))
}

// held is a change, and what it should read.
type held struct {
	c     *kv.Change
	m     model
	steps []step
	began int
	done  bool
}

// randomStep returns a step of one of a few keys.
func randomStep(r *rand.Rand) step {
	key := []string{"a", "aa", "ab", "b", "\x00", "\xff", "\xff\xff", "c"}[r.Intn(8)]
	if r.Intn(3) == 0 {
		return drop(key)
	}
	return put(key, strings.Repeat(key, r.Intn(5)))
}

// P9.2, P9.3: several changes at the same time, in any order, beside the model.
func TestManyChanges(t *testing.T) {
	t.Parallel()
	for seed := range int64(150) {
		r := rand.New(rand.NewSource(seed))
		s, d, m := filled(t, 2048, put("a", "x"), put("b", "y"))
		var changes []*held
		number := 0
		for range 200 {
			if len(changes) == 0 || r.Intn(6) == 0 {
				changes = append(changes, &held{c: s.Begin(), m: m, began: number})
			}
			h := changes[r.Intn(len(changes))]
			switch r.Intn(9) {
			case 0, 1:
				want := api.OK
				if h.done || h.began != number {
					want = api.ErrOrder
				}
				commits(t, h.c, want)
				if want == api.OK && len(h.steps) > 0 {
					m, number = m.after(h.steps...), number+1
				}
				h.done = true
			case 2:
				h.c.Cancel()
				h.done = true
			default:
				x, want := randomStep(r), api.OK
				if h.done {
					want = api.ErrOrder
				}
				adds(t, h.c, x, want)
				if want == api.OK {
					h.steps = append(h.steps, x)
				}
			}
			reading(t, h.c, h.m.after(h.steps...), "", "a", "aa", "ab", "b", "c", "\x00", "\xff", "\xff\xff", "d")
			has(t, s, m)
			if len(changes) > 8 {
				at := r.Intn(len(changes))
				changes = slices.Delete(changes, at, at+1)
			}
		}
		for _, h := range changes {
			reading(t, h.c, h.m.after(h.steps...), "", "a", "aa", "ab", "b", "c", "\x00", "\xff", "\xff\xff", "d")
		}
		kept(t, d, m)
	}
}
