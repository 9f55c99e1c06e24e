package crc_test

import (
	"bytes"
	"hash/crc32"
	"math"
	"math/rand"
	"slices"
	"testing"

	"klaxon/api"
	"klaxon/crc"
)

// The calls keep the signatures that the chapter lists.
var (
	_ func(...[]byte) uint32           = crc.Sum
	_ func() *crc.Running              = crc.New
	_ func(*crc.Running, []byte)       = (*crc.Running).Write
	_ func(*crc.Running) uint32        = (*crc.Running).Sum
	_ func(uint32) []byte              = crc.Put
	_ func([]byte) (uint32, api.Errno) = crc.Get
)

const greatest = math.MaxUint32

// numbers are the edges of four bytes, and numbers in which each byte is told from the others.
var numbers = []uint32{
	0, 1, 2, 127, 128, 255, 256, 257, 65535, 65536, 1<<24 - 1, 1 << 24,
	1<<31 - 1, 1 << 31, 1<<31 + 1, greatest - 1, greatest,
	0x01020304, 0x04030201, 0x80818283, 0xff00ff00, 0x00ff00ff, 0xcbf43926, 0xdeadbeef,
}

func message(n int) []byte {
	m := make([]byte, n)
	for i := range m {
		m[i] = byte(i*7 + i/256 + 3)
	}
	return m
}

func randomMessage(r *rand.Rand, n int) []byte {
	m := make([]byte, n)
	r.Read(m)
	return m
}

// defined works the checksum out as the chapter tells it, on 32 bits that are kept one by one.
func defined(m []byte) uint32 {
	var state [32]bool // the lowest bit first
	for i := range state {
		state[i] = true
	}
	for _, x := range m {
		for i := range 8 {
			state[i] = state[i] != (x>>i&1 == 1)
		}
		for range 8 {
			lowest := state[0]
			copy(state[:], state[1:])
			state[31] = false
			for i := range state {
				state[i] = state[i] != (lowest && uint32(0xedb88320)>>i&1 == 1)
			}
		}
	}
	var sum uint32
	for i, bit := range state {
		if !bit {
			sum |= 1 << i
		}
	}
	return sum
}

func check(t *testing.T, what string, got, want uint32) {
	t.Helper()
	if got != want {
		t.Errorf("%s: got %08x, want %08x", what, got, want)
	}
}

func checkSum(t *testing.T, what string, got uint32, m []byte) {
	t.Helper()
	if want := crc32.ChecksumIEEE(m); got != want {
		t.Errorf("%s (%d bytes): got %08x, want %08x", what, len(m), got, want)
	}
}

// P3.1: the chapter's examples and published answers, written out so that they hang on no other program.
func TestSumKnown(t *testing.T) {
	for _, c := range []struct {
		message string
		want    uint32
	}{
		{"", 0},
		{"123456789", 0xcbf43926},
		{"a", 0xe8b7be43},
		{"abc", 0x352441c2},
		{"message digest", 0x20159d7f},
		{"abcdefghijklmnopqrstuvwxyz", 0x4c2750bd},
		{"The quick brown fox jumps over the lazy dog", 0x414fa339},
		{"\x00", 0xd202ef8d},
		{"\xff", 0xff000000},
		{"\x00\x00\x00\x00", 0x2144df1c},
		{"\xff\xff\xff\xff", 0xffffffff},
	} {
		check(t, "Sum of "+c.message, crc.Sum([]byte(c.message)), c.want)
		r := crc.New()
		r.Write([]byte(c.message))
		check(t, "running checksum of "+c.message, r.Sum(), c.want)
	}
}

// P3.1: every length through some hundreds, by the chapter's definition, with a running checksum beside.
func TestSumEveryLength(t *testing.T) {
	random := rand.New(rand.NewSource(1))
	for n := range 400 {
		for _, m := range [][]byte{message(n), make([]byte, n), bytes.Repeat([]byte{0xff}, n), randomMessage(random, n)} {
			want := defined(m)
			check(t, "Sum", crc.Sum(m), want)
			checkSum(t, "Sum beside the library", crc.Sum(m), m)
			r := crc.New()
			r.Write(m)
			check(t, "running checksum", r.Sum(), want)
		}
	}
}

// P3.1: each value of a byte, alone and among others.
func TestSumEveryByte(t *testing.T) {
	for x := range 256 {
		for _, m := range [][]byte{{byte(x)}, {byte(x), byte(x)}, {1, byte(x), 2}, {0, 0, 0, byte(x), 0, 0, 0, 0}} {
			check(t, "Sum", crc.Sum(m), defined(m))
		}
	}
}

func TestSumLong(t *testing.T) {
	for _, n := range []int{4095, 4096, 65535, 65536, 65537, 1<<20 + 9} {
		checkSum(t, "Sum", crc.Sum(message(n)), message(n))
	}
}

// P3.1, P1: no parts, nil parts and empty parts are the empty message.
func TestSumOfNothing(t *testing.T) {
	check(t, "no parts", crc.Sum(), 0)
	check(t, "nil part", crc.Sum(nil), 0)
	check(t, "nil list of parts", crc.Sum([][]byte(nil)...), 0)
	check(t, "empty list of parts", crc.Sum([][]byte{}...), 0)
	check(t, "empty parts", crc.Sum([]byte{}, nil, []byte{}), 0)
}

// P3.1: a message has one checksum in whatever parts it comes.
func TestSumParts(t *testing.T) {
	for _, n := range []int{0, 1, 2, 3, 4, 5, 9, 64, 65, 130} {
		m := message(n)
		for cut := range n + 1 {
			checkSum(t, "two parts", crc.Sum(m[:cut], m[cut:]), m)
			checkSum(t, "parts and nothing between", crc.Sum(nil, m[:cut], []byte{}, nil, m[cut:], nil), m)
		}
		var single [][]byte
		for i := range m {
			single = append(single, m[i:i+1])
		}
		checkSum(t, "single bytes", crc.Sum(single...), m)
	}
	random := rand.New(rand.NewSource(2))
	for range 300 {
		m := randomMessage(random, random.Intn(1000))
		checkSum(t, "random parts", crc.Sum(randomParts(random, m)...), m)
	}
}

func randomParts(random *rand.Rand, m []byte) [][]byte {
	var parts [][]byte
	for len(m) > 0 {
		n := random.Intn(min(len(m), 50) + 1)
		parts = append(parts, m[:n])
		m = m[n:]
	}
	return parts
}

// P3.1: the order of the parts counts, and so does how often one is there.
func TestSumOrder(t *testing.T) {
	one, two := []byte("ab"), []byte("c")
	checkSum(t, "one, two", crc.Sum(one, two), []byte("abc"))
	checkSum(t, "two, one", crc.Sum(two, one), []byte("cab"))
	checkSum(t, "one, one", crc.Sum(one, one), []byte("abab"))
}

// P3.1: a new running checksum has no bytes, and writing nothing leaves it as it is.
func TestNew(t *testing.T) {
	r := crc.New()
	if r == nil {
		t.Fatal("New returned nil")
	}
	check(t, "new", r.Sum(), 0)
	r.Write(nil)
	check(t, "nil written", r.Sum(), 0)
	r.Write([]byte{})
	check(t, "empty written", r.Sum(), 0)
	r.Write([]byte("123456789"))
	check(t, "digits written", r.Sum(), 0xcbf43926)
	r.Write(nil)
	check(t, "digits, then nil", r.Sum(), 0xcbf43926)
}

// P3.1: sums asked for between writes are right, also twice in a row, and do not disturb what comes after.
func TestSumBetweenWrites(t *testing.T) {
	m := message(300)
	r := crc.New()
	for i := range m {
		checkSum(t, "byte by byte", r.Sum(), m[:i])
		checkSum(t, "asked again", r.Sum(), m[:i])
		r.Write(m[i : i+1])
	}
	checkSum(t, "at the end", r.Sum(), m)
	for step := 1; step <= 100; step++ {
		r := crc.New()
		for at := 0; at < len(m); at += step {
			end := min(at+step, len(m))
			r.Write(m[at:end])
			checkSum(t, "in steps", r.Sum(), m[:end])
		}
	}
}

// P3.1: the same message in any writes, with no sum between.
func TestWritesInParts(t *testing.T) {
	random := rand.New(rand.NewSource(3))
	for range 300 {
		m := randomMessage(random, random.Intn(1000))
		r := crc.New()
		for _, part := range randomParts(random, m) {
			r.Write(part)
		}
		checkSum(t, "random writes", r.Sum(), m)
	}
}

// P3.1: running checksums are apart from each other, and from Sum.
func TestRunningAreApart(t *testing.T) {
	one, two := crc.New(), crc.New()
	m := message(200)
	for i := range m {
		one.Write(m[i : i+1])
		crc.Sum(m[:i])
		if i%3 == 0 {
			two.Write(m[i/3 : i/3+1])
		}
	}
	checkSum(t, "one", one.Sum(), m)
	checkSum(t, "two", two.Sum(), m[:67])
	check(t, "a third", crc.New().Sum(), 0)
}

// turned returns m with some bits turned from place on. The bits of a byte are counted from the lowest, in the order in
// which the checksum takes them: counted from the highest, some patterns of 32 bits would leave it as it was.
func turned(m []byte, place int, pattern uint32) []byte {
	out := bytes.Clone(m)
	for i := range 32 {
		if pattern>>i&1 == 1 {
			out[(place+i)/8] ^= 1 << ((place + i) % 8)
		}
	}
	return out
}

// lowest returns a number whose lowest n bits are 1, for n from 1 to 32.
func lowest(n int) uint32 { return greatest >> (32 - n) }

// P3.2: one to thirty-two consecutive bits that are turned, at every place, all of them or the outermost and some between.
func TestTurnedBits(t *testing.T) {
	random := rand.New(rand.NewSource(4))
	for size := 1; size <= 20; size++ {
		m := randomMessage(random, size)
		sum := crc.Sum(m)
		for n := 1; n <= min(32, 8*size); n++ {
			outer := uint32(1) | 1<<(n-1)
			for place := range 8*size - n + 1 {
				for _, pattern := range []uint32{lowest(n), outer, outer | random.Uint32()&lowest(n)} {
					other := turned(m, place, pattern)
					if crc.Sum(other) == sum {
						t.Errorf("%x and %x have the same checksum", m, other)
					}
				}
			}
		}
	}
}

// P3.2: of two bytes and fewer, no two messages of the same length have the same checksum.
func TestShortMessagesAreApart(t *testing.T) {
	for size := range 3 {
		seen := map[uint32]int{}
		for x := range 1 << (8 * size) {
			sum := crc.Sum([]byte{byte(x), byte(x >> 8)}[:size])
			if y, ok := seen[sum]; ok {
				t.Errorf("%d bytes: %x and %x have the same checksum", size, x, y)
			}
			seen[sum] = x
		}
	}
}

// P3.2: what thirty-two neighbouring bits change in a checksum, each by itself, is independent;
// with the xor of three messages this says that no pattern of these bits leaves a checksum as it was.
func TestNeighbouringBitsAreIndependent(t *testing.T) {
	for _, size := range []int{4, 5, 8, 40, 300} {
		m := message(size)
		sum := crc.Sum(m)
		for place := range 8*size - 31 {
			var basis [32]uint32 // at i: one whose highest bit is i
			for bit := range 32 {
				if !insert(&basis, crc.Sum(turned(m, place, 1<<bit))^sum) {
					t.Fatalf("%d bytes: some of the 32 bits from %d on turn and the checksum does not", size, place)
				}
			}
		}
	}
}

// insert adds x to the basis, and tells whether it was independent of it.
func insert(basis *[32]uint32, x uint32) bool {
	for i := 31; i >= 0; i-- {
		if x>>i&1 == 0 {
			continue
		}
		if basis[i] == 0 {
			basis[i] = x
			return true
		}
		x ^= basis[i]
	}
	return false
}

// P3.2: the xor of the checksums of three messages of the same length is the checksum of their xor.
func TestXorOfThree(t *testing.T) {
	random := rand.New(rand.NewSource(5))
	for size := range 300 {
		zeros, ones := make([]byte, size), bytes.Repeat([]byte{0xff}, size)
		a, b, c := randomMessage(random, size), randomMessage(random, size), randomMessage(random, size)
		checkXor(t, a, b, c)
		checkXor(t, a, b, zeros)
		checkXor(t, a, zeros, ones)
		checkXor(t, a, a, b)
		checkXor(t, a, a, a)
		checkXor(t, zeros, zeros, zeros)
	}
}

func checkXor(t *testing.T, a, b, c []byte) {
	t.Helper()
	x := make([]byte, len(a))
	for i := range x {
		x[i] = a[i] ^ b[i] ^ c[i]
	}
	check(t, "checksum of a xor", crc.Sum(x), crc.Sum(a)^crc.Sum(b)^crc.Sum(c))
}

// P3.3: the highest byte is the first.
func TestPutKnown(t *testing.T) {
	for _, c := range []struct {
		n    uint32
		want []byte
	}{
		{0, []byte{0, 0, 0, 0}},
		{1, []byte{0, 0, 0, 1}},
		{255, []byte{0, 0, 0, 255}},
		{256, []byte{0, 0, 1, 0}},
		{65536, []byte{0, 1, 0, 0}},
		{1 << 24, []byte{1, 0, 0, 0}},
		{1 << 31, []byte{128, 0, 0, 0}},
		{greatest, []byte{255, 255, 255, 255}},
		{0x01020304, []byte{1, 2, 3, 4}},
		{0xcbf43926, []byte{0xcb, 0xf4, 0x39, 0x26}},
	} {
		if got := crc.Put(c.n); !bytes.Equal(got, c.want) {
			t.Errorf("Put(%d): got %v, want %v", c.n, got, c.want)
		}
		checkGet(t, c.want, c.n)
	}
}

func checkGet(t *testing.T, b []byte, want uint32) {
	t.Helper()
	if got, e := crc.Get(b); got != want || e != api.OK {
		t.Errorf("Get(%v): got %d with error %d, want %d", b, got, e, want)
	}
}

// P3.3: Get returns the number that was put, and Put the bytes that were got.
func TestPutThenGet(t *testing.T) {
	random := rand.New(rand.NewSource(6))
	all := slices.Clone(numbers)
	for range 10000 {
		all = append(all, random.Uint32())
	}
	for place := range 4 {
		for x := range 256 {
			all = append(all, uint32(x)<<(8*place))
		}
	}
	for _, n := range all {
		b := crc.Put(n)
		if len(b) != 4 {
			t.Fatalf("Put(%d): %d bytes", n, len(b))
		}
		checkGet(t, b, n)
		got, _ := crc.Get(b)
		if again := crc.Put(got); !bytes.Equal(again, b) {
			t.Errorf("%v got and put again: %v", b, again)
		}
	}
}

// P3.3: each byte value in each place.
func TestGetEveryByte(t *testing.T) {
	for place := range 4 {
		for x := range 256 {
			b := []byte{0x11, 0x22, 0x33, 0x44}
			b[place] = byte(x)
			want := ((uint32(b[0])*256+uint32(b[1]))*256+uint32(b[2]))*256 + uint32(b[3])
			checkGet(t, b, want)
		}
	}
}

// P3.3: any other number of bytes is refused, with the number 0, whatever lies behind in the same memory.
func TestGetWrongSizes(t *testing.T) {
	wrong := [][]byte{nil, {}, message(1 << 16)}
	for n := range 40 {
		if n != 4 {
			wrong = append(wrong, message(n), message(50)[:n], make([]byte, n), bytes.Repeat([]byte{0xff}, n))
		}
	}
	for _, b := range wrong {
		if got, e := crc.Get(b); got != 0 || e != api.ErrSize {
			t.Errorf("Get of %d bytes (nil: %v): got %d with error %d", len(b), b == nil, got, e)
		}
	}
	checkGet(t, append(make([]byte, 0, 50), 1, 2, 3, 4), 0x01020304)
}

// Rules, Memory: arguments are not changed, nor is what lies about them in the same memory.
func TestArgumentsAreNotChanged(t *testing.T) {
	for _, n := range []int{0, 1, 3, 4, 5, 50, 200} {
		room := message(500)
		before := bytes.Clone(room)
		part, other := room[100:100+n], room[50:50+n/2]
		parts := make([][]byte, 2, 8)
		parts[0], parts[1] = part, other
		crc.Sum(parts...)
		r := crc.New()
		r.Write(part)
		r.Sum()
		r.Write(other)
		r.Sum()
		crc.Get(part)
		crc.Get(other)
		if !bytes.Equal(room, before) {
			t.Errorf("%d bytes: an argument or its surroundings changed", n)
		}
		if !bytes.Equal(parts[0], part) || !bytes.Equal(parts[1], other) {
			t.Errorf("%d bytes: the list of parts changed", n)
		}
		for i, p := range parts[:8][2:] {
			if p != nil {
				t.Errorf("%d bytes: spare part %d changed", n, i)
			}
		}
	}
}

// Rules, Memory: what was written is not kept: changing it afterwards changes no checksum.
func TestWrittenIsNotKept(t *testing.T) {
	for _, n := range []int{0, 1, 3, 4, 5, 50, 200} {
		m := message(n)
		r := crc.New()
		r.Write(m)
		spoil(m)
		checkSum(t, "written and changed", r.Sum(), message(n))
		r.Write(message(70))
		checkSum(t, "and more", r.Sum(), append(message(n), message(70)...))
	}
}

// Rules, Memory: what Put returned is new memory with its spare capacity: changing it changes no other result, and no later call.
func TestPutIsNotShared(t *testing.T) {
	for _, n := range numbers {
		first, second := crc.Put(n), crc.Put(n)
		kept := bytes.Clone(second)
		spoil(first)
		if !bytes.Equal(second, kept) {
			t.Errorf("Put(%d): two results share memory", n)
		}
		if later := crc.Put(n); !bytes.Equal(later, kept) {
			t.Errorf("Put(%d) after a result was changed: %v, before %v", n, later, kept)
		}
		checkGet(t, second, n)
		crc.Put(^n)
		checkGet(t, second, n)
	}
}

func spoil(b []byte) {
	b = b[:cap(b)]
	for i := range b {
		b[i] = 0xa5
	}
}

// Rules, Determinism: equal arguments, equal answers, whatever was asked before.
func TestDeterminism(t *testing.T) {
	for n := range 100 {
		first := crc.Sum(message(n))
		crc.New().Write([]byte("else"))
		crc.Put(first)
		crc.Get(nil)
		check(t, "the same again", crc.Sum(message(n)), first)
	}
}

// A message with its checksum behind it, the lowest byte first, has one checksum, whatever the message is.
func TestSumOfMessageWithSum(t *testing.T) {
	for n := range 100 {
		b := crc.Put(crc.Sum(message(n)))
		check(t, "with its checksum", crc.Sum(message(n), []byte{b[3], b[2], b[1], b[0]}), 0x2144df1c)
	}
}
