package disk_test

import (
	"math/big"
	"math/rand"
	"slices"
	"testing"

	"klaxon/api"
	"klaxon/disk"
)

// model is a disk as the chapter tells it: its bytes by their offsets, and what was requested, in order.
type model struct {
	size  int
	bytes map[int]byte // those that are not 0
	log   []request
}

type request struct {
	kind          string // completed, failed, lit, started
	writes, bytes int    // of the fuse, if lit
}

// lit returns the fuse of the model, what is left of its writes, and whether there is one.
func (m *model) lit() (writes, bytes int, ok bool) {
	for i := len(m.log) - 1; i >= 0; i-- {
		switch m.log[i].kind {
		case "completed":
			writes--
		case "started":
			return 0, 0, false
		case "lit":
			return writes + m.log[i].writes, m.log[i].bytes, true
		}
	}
	return 0, 0, false
}

func (m *model) up() bool {
	for i := len(m.log) - 1; i >= 0; i-- {
		switch m.log[i].kind {
		case "failed":
			return false
		case "started":
			return true
		}
	}
	return true
}

func (m *model) writes() int {
	n := 0
	for _, r := range m.log {
		if r.kind == "completed" || r.kind == "failed" {
			n++
		}
	}
	return n
}

// wrong returns the error of a read or write, with a sum that has no bounds.
func (m *model) wrong(at, n int) api.Errno {
	end := new(big.Int).Add(big.NewInt(int64(at)), big.NewInt(int64(n)))
	switch {
	case !m.up():
		return api.ErrDown
	case at < 0 || n < 0 || end.Cmp(big.NewInt(int64(m.size))) > 0:
		return api.ErrRange
	}
	return api.OK
}

func (m *model) read(at, n int) ([]byte, api.Errno) {
	if e := m.wrong(at, n); e != api.OK {
		return nil, e
	}
	b := []byte{}
	for i := range n {
		b = append(b, m.bytes[at+i])
	}
	return b, api.OK
}

func (m *model) put(at int, b []byte) {
	for i, x := range b {
		delete(m.bytes, at+i)
		if x != 0 {
			m.bytes[at+i] = x
		}
	}
}

func (m *model) write(at int, b []byte) api.Errno {
	if e := m.wrong(at, len(b)); e != api.OK {
		return e
	}
	if writes, bytes, ok := m.lit(); ok && writes == 0 {
		if bytes < len(b) {
			b = b[:bytes]
		}
		m.put(at, b)
		m.log = append(m.log, request{kind: "failed"})
		return api.ErrDown
	}
	m.put(at, b)
	m.log = append(m.log, request{kind: "completed"})
	return api.OK
}

func (m *model) light(writes, bytes int) api.Errno {
	if writes < 0 || bytes < 0 {
		return api.ErrRange
	}
	m.log = append(m.log, request{"lit", writes, bytes})
	return api.OK
}

func (m *model) copy() *model {
	c := &model{size: m.size, bytes: map[int]byte{}, log: slices.Clone(m.log)}
	for at, x := range m.bytes {
		c.bytes[at] = x
	}
	return c
}

func (m *model) differ(o *model) ([]disk.Span, bool) {
	if m.size != o.size {
		return nil, false
	}
	var l []disk.Span
	for at := range m.size {
		unlike := m.bytes[at] != o.bytes[at]
		after := at > 0 && m.bytes[at-1] != o.bytes[at-1]
		if unlike && after {
			l[len(l)-1].Size++
		} else if unlike {
			l = append(l, disk.Span{At: at, Size: 1})
		}
	}
	return l, true
}

// pair is a disk, and what it should be.
type pair struct {
	d *disk.Disk
	m *model
}

// randomNumber returns a number about the edges of a disk of that size, or one far beyond.
func randomNumber(r *rand.Rand, size int) int {
	switch r.Intn(8) {
	case 0:
		return r.Intn(5) - 2
	case 1:
		return size - 2 + r.Intn(5)
	case 2:
		return []int{least, least + 1, greatest, greatest - 1, greatest - size, -size, 1 << 32}[r.Intn(7)]
	default:
		return r.Intn(size)
	}
}

func randomBytes(r *rand.Rand, size int) []byte {
	b := make([]byte, []int{0, 1, 2, 5, 30, size - 1, size, size + 1}[r.Intn(8)])
	for i := range b {
		b[i] = byte(r.Intn(3)) // few values, so that disks often differ here and there
	}
	return b
}

// step does one thing to a disk and its model, and returns another pair where one was made.
func step(t *testing.T, r *rand.Rand, p, o pair) (pair, bool) {
	t.Helper()
	switch r.Intn(12) {
	case 0, 1, 2, 3:
		at, b := randomNumber(r, p.m.size), randomBytes(r, p.m.size)
		if r.Intn(2) == 0 && p.m.size >= len(b) {
			at = r.Intn(p.m.size - len(b) + 1)
		}
		write(t, p.d, at, b, p.m.write(at, b))
	case 4, 5:
		at, n := randomNumber(r, p.m.size), randomNumber(r, p.m.size)
		if want, e := p.m.read(at, n); e != api.OK {
			unread(t, p.d, at, n, e)
		} else {
			read(t, p.d, at, want)
		}
	case 6, 7:
		writes, bytes := r.Intn(5)-1, []int{-1, 0, 1, 2, 10, greatest}[r.Intn(6)]
		if got, want := p.d.Light(writes, bytes), p.m.light(writes, bytes); got != want {
			t.Fatalf("Light(%d, %d): error %d, want %d", writes, bytes, got, want)
		}
	case 8, 9:
		p.d.Start()
		p.m.log = append(p.m.log, request{kind: "started"})
	case 10:
		return pair{p.d.Copy(), p.m.copy()}, true
	default:
		got, ok := p.d.Differ(o.d)
		if want, same := p.m.differ(o.m); ok != same || !slices.Equal(got, want) {
			t.Fatalf("Differ: %v, %v, want %v, %v", got, ok, want, same)
		}
	}
	return pair{}, false
}

// P7.1 to P7.4: any calls, in any order, on several disks and their copies, beside the model.
func TestBesideModel(t *testing.T) {
	t.Parallel()
	for seed := range int64(150) {
		r := rand.New(rand.NewSource(seed))
		var pairs []pair
		for _, size := range []int{api.MinDisk, api.MinDisk, api.MinDisk + 1} {
			pairs = append(pairs, pair{made(t, size), &model{size: size, bytes: map[int]byte{}}})
		}
		for range 200 {
			i := r.Intn(len(pairs))
			if made, ok := step(t, r, pairs[i], pairs[r.Intn(len(pairs))]); ok {
				pairs[r.Intn(len(pairs))] = made
			}
			for _, p := range pairs {
				is(t, p.d, p.m.up(), p.m.writes())
			}
		}
		for _, p := range pairs {
			p.m.log = append(p.m.log, request{kind: "started"})
			want, _ := p.m.read(0, p.m.size)
			holds(t, p.d, want)
		}
	}
}
