package sha_test

import (
	"bytes"
	"crypto/sha256"
	"encoding/hex"
	"math/rand"
	"strings"
	"testing"

	"klaxon/sha"
)

// The calls keep the signatures that the chapter lists.
var (
	_ func(...[]byte) []byte    = sha.Sum
	_ func() *sha.Hash          = sha.New
	_ func(*sha.Hash, []byte)   = (*sha.Hash).Write
	_ func(h *sha.Hash) []byte  = (*sha.Hash).Sum
	_ interface{ Sum() []byte } = sha.New()
)

const emptyHash = "e3b0c44298fc1c149afbf4c8996fb92427ae41e4649b934ca495991b7852b855"

// blockEdges are the lengths about which the padding takes one block more, or a block is just full.
var blockEdges = []int{0, 1, 54, 55, 56, 57, 63, 64, 65, 118, 119, 120, 121, 127, 128, 129, 183, 184, 191, 192, 193}

func message(n int) []byte {
	m := make([]byte, n)
	for i := range m {
		m[i] = byte(i*7 + i/256 + 3)
	}
	return m
}

func standard(m []byte) []byte {
	s := sha256.Sum256(m)
	return s[:]
}

func checkHex(t *testing.T, what string, got []byte, want string) {
	t.Helper()
	if hex.EncodeToString(got) != want {
		t.Errorf("%s: got %x, want %s", what, got, want)
	}
}

func checkSum(t *testing.T, what string, got, m []byte) {
	t.Helper()
	if want := standard(m); !bytes.Equal(got, want) {
		t.Errorf("%s (%d bytes): got %x, want %x", what, len(m), got, want)
	}
}

// P1.1: published answers, written out so that they hang on no other program.
func TestSumKnown(t *testing.T) {
	for _, c := range []struct{ message, want string }{
		{"", emptyHash},
		{"abc", "ba7816bf8f01cfea414140de5dae2223b00361a396177a9cb410ff61f20015ad"},
		{"abcdbcdecdefdefgefghfghighijhijkijkljklmklmnlmnomnopnopq", "248d6a61d20638b8e5c026930c3e6039a33ce45964ff2167f6ecedd419db06c1"},
		{"abcdefghbcdefghicdefghijdefghijkefghijklfghijklmghijklmnhijklmnoijklmnopjklmnopqklmnopqrlmnopqrsmnopqrstnopqrstu", "cf5b16a778af8380036ce59e7b0492370b249b11e8f07a51afac45037afee9d1"},
		{strings.Repeat("a", 55), "9f4390f8d30c2dd92ec9f095b65e2b9ae9b0a925a5258e241c9f1e910f734318"},
		{strings.Repeat("a", 56), "b35439a4ac6f0948b6d6f9e3c6af0f5f590ce20f1bde7090ef7970686ec6738a"},
		{strings.Repeat("a", 63), "7d3e74a05d7db15bce4ad9ec0658ea98e3f06eeecf16b4c6fff2da457ddc2f34"},
		{strings.Repeat("a", 64), "ffe054fe7ae0cb6dc65c3af9b61d5209f439851db43d0ba5997337df154668eb"},
		{strings.Repeat("a", 65), "635361c48bb9eab14198e76ea8ab7f1a41685d6ad62aa9146d301d4f17eb0ae0"},
		{strings.Repeat("a", 119), "31eba51c313a5c08226adf18d4a359cfdfd8d2e816b13f4af952f7ea6584dcfb"},
		{strings.Repeat("a", 120), "2f3d335432c70b580af0e8e1b3674a7c020d683aa5f73aaaedfdc55af904c21c"},
		{strings.Repeat("a", 128), "6836cf13bac400e9105071cd6af47084dfacad4e5e302c94bfed24e013afb73e"},
		{strings.Repeat("a", 1000000), "cdc76e5c9914fb9281a1c7e284d73e67f1809a48a497200e046d39ccc7112cd0"},
	} {
		what := c.message[:min(len(c.message), 12)]
		checkHex(t, "Sum of "+what, sha.Sum([]byte(c.message)), c.want)
		h := sha.New()
		h.Write([]byte(c.message))
		checkHex(t, "running hash of "+what, h.Sum(), c.want)
	}
}

// P1.1: every length through several blocks, with bytes of every value.
func TestSumEveryLength(t *testing.T) {
	for n := range 600 {
		checkSum(t, "Sum", sha.Sum(message(n)), message(n))
	}
	for _, n := range []int{4095, 4096, 65535, 65536, 1<<16 + 9} {
		checkSum(t, "Sum", sha.Sum(message(n)), message(n))
	}
}

// The number of bits needs more than 32 bits here: its upper half must not be lost.
func TestSumLengthBeyond32Bits(t *testing.T) {
	if testing.Short() {
		t.Skip("half a GiB of bytes")
	}
	h, want := sha.New(), sha256.New()
	chunk := message(1 << 20)
	for range 1<<9 + 1 {
		h.Write(chunk)
		want.Write(chunk)
	}
	if got := h.Sum(); !bytes.Equal(got, want.Sum(nil)) {
		t.Errorf("got %x, want %x", got, want.Sum(nil))
	}
}

// P1.1, P1: no parts, nil parts, and empty parts are the empty message.
func TestSumOfNothing(t *testing.T) {
	checkHex(t, "no parts", sha.Sum(), emptyHash)
	checkHex(t, "nil part", sha.Sum(nil), emptyHash)
	checkHex(t, "nil list of parts", sha.Sum([][]byte(nil)...), emptyHash)
	checkHex(t, "empty list of parts", sha.Sum([][]byte{}...), emptyHash)
	checkHex(t, "empty parts", sha.Sum([]byte{}, nil, []byte{}), emptyHash)
}

// P1.1: a message has one hash in whatever parts it comes.
func TestSumParts(t *testing.T) {
	for _, n := range blockEdges {
		m := message(n)
		for cut := range n + 1 {
			checkSum(t, "two parts", sha.Sum(m[:cut], m[cut:]), m)
			checkSum(t, "parts and nothing between", sha.Sum(nil, m[:cut], []byte{}, nil, m[cut:], nil), m)
		}
		var single [][]byte
		for i := range m {
			single = append(single, m[i:i+1])
		}
		checkSum(t, "single bytes", sha.Sum(single...), m)
	}
	r := rand.New(rand.NewSource(1))
	for range 300 {
		m := message(r.Intn(1000))
		checkSum(t, "random parts", sha.Sum(randomParts(r, m)...), m)
	}
}

func randomParts(r *rand.Rand, m []byte) [][]byte {
	var parts [][]byte
	for len(m) > 0 {
		n := r.Intn(min(len(m), 150) + 1)
		parts = append(parts, m[:n])
		m = m[n:]
	}
	return parts
}

// P1.1: the order of the parts counts.
func TestSumOrder(t *testing.T) {
	if bytes.Equal(sha.Sum([]byte("ab"), []byte("c")), sha.Sum([]byte("c"), []byte("ab"))) {
		t.Error("parts in another order have the same hash")
	}
}

// P1.2: a new hash has no bytes, and writing nothing leaves it so.
func TestNew(t *testing.T) {
	h := sha.New()
	checkHex(t, "new", h.Sum(), emptyHash)
	h.Write(nil)
	checkHex(t, "nil written", h.Sum(), emptyHash)
	h.Write([]byte{})
	checkHex(t, "empty written", h.Sum(), emptyHash)
	h.Write([]byte("abc"))
	checkSum(t, "abc written", h.Sum(), []byte("abc"))
	h.Write(nil)
	checkSum(t, "abc, then nil", h.Sum(), []byte("abc"))
}

// P1.2: sums asked for between writes are right, and do not disturb what comes after.
func TestSumBetweenWrites(t *testing.T) {
	m := message(300)
	h := sha.New()
	for i := range m {
		checkSum(t, "byte by byte", h.Sum(), m[:i])
		checkSum(t, "asked again", h.Sum(), m[:i])
		h.Write(m[i : i+1])
	}
	for step := 1; step <= 200; step++ {
		h := sha.New()
		for at := 0; at < len(m); at += step {
			end := min(at+step, len(m))
			h.Write(m[at:end])
			checkSum(t, "in steps", h.Sum(), m[:end])
		}
	}
}

// P1.2: the same message in any writes, with no sum between, and about the ends of blocks.
func TestWritesInParts(t *testing.T) {
	for _, first := range blockEdges {
		for _, second := range blockEdges {
			m := message(first + second)
			h := sha.New()
			h.Write(m[:first])
			h.Write(m[first:])
			checkSum(t, "two writes", h.Sum(), m)
		}
	}
	r := rand.New(rand.NewSource(2))
	for range 300 {
		m := message(r.Intn(2000))
		h := sha.New()
		for _, part := range randomParts(r, m) {
			h.Write(part)
		}
		checkSum(t, "random writes", h.Sum(), m)
	}
}

// P1.2: running hashes are apart from each other, and from Sum.
func TestHashesAreApart(t *testing.T) {
	one, two := sha.New(), sha.New()
	m := message(200)
	for i := range m {
		one.Write(m[i : i+1])
		sha.Sum(m[:i])
		if i%3 == 0 {
			two.Write(m[i/3 : i/3+1])
		}
	}
	checkSum(t, "one", one.Sum(), m)
	checkSum(t, "two", two.Sum(), m[:67])
	checkHex(t, "a third", sha.New().Sum(), emptyHash)
}

// Rules, Memory: what was written is not kept: changing it afterwards changes no hash.
func TestWrittenIsNotKept(t *testing.T) {
	for _, n := range blockEdges {
		m := message(n)
		h := sha.New()
		h.Write(m)
		for i := range m {
			m[i] ^= 0xff
		}
		checkSum(t, "written and changed", h.Sum(), message(n))
		h.Write(message(70))
		checkSum(t, "and more", h.Sum(), append(message(n), message(70)...))
	}
}

// Rules, Memory: arguments are not changed, nor is what lies about them in the same memory.
func TestArgumentsAreNotChanged(t *testing.T) {
	for _, n := range blockEdges {
		room := message(n + 300)
		before := bytes.Clone(room)
		part, other := room[100:100+n], room[50:50+n/2]
		parts := make([][]byte, 2, 8)
		parts[0], parts[1] = part, other
		sha.Sum(parts...)
		h := sha.New()
		h.Write(part)
		h.Sum()
		h.Write(other)
		h.Sum()
		if !bytes.Equal(room, before) {
			t.Errorf("%d bytes: an argument or its surroundings changed", n)
		}
		if len(parts[0]) != n || len(parts[1]) != n/2 {
			t.Errorf("%d bytes: the list of parts changed", n)
		}
		for i, p := range parts[:8][2:] {
			if p != nil {
				t.Errorf("%d bytes: spare part %d changed", n, i)
			}
		}
	}
}

// Rules, Memory: a sum is new memory with its spare capacity: changing it changes nothing else.
func TestSumsAreNotShared(t *testing.T) {
	for _, n := range blockEdges {
		m := message(n)
		h := sha.New()
		h.Write(m)
		first, second := h.Sum(), h.Sum()
		third, fourth := sha.Sum(m), sha.Sum(m)
		spoil(first)
		spoil(third)
		checkSum(t, "the second sum", second, m)
		checkSum(t, "the fourth sum", fourth, m)
		checkSum(t, "a later sum", h.Sum(), m)
		checkSum(t, "a later Sum", sha.Sum(m), m)
		h.Write([]byte("more"))
		checkSum(t, "after more", h.Sum(), append(message(n), "more"...))
		checkSum(t, "the second sum, after more", second, m)
	}
}

func spoil(b []byte) {
	b = b[:cap(b)]
	for i := range b {
		b[i] = 0xa5
	}
}

// A sum that is written into its own hash is an argument like any other.
func TestSumWrittenBack(t *testing.T) {
	h := sha.New()
	var all []byte
	for range 20 {
		s := h.Sum()
		checkSum(t, "chained", s, all)
		h.Write(s)
		all = append(all, s...)
	}
}

// Rules, Determinism: equal arguments, equal answers of 32 bytes.
func TestSumLengthAndDeterminism(t *testing.T) {
	for _, n := range blockEdges {
		one, two := sha.Sum(message(n)), sha.Sum(message(n))
		if len(one) != 32 || !bytes.Equal(one, two) {
			t.Errorf("%d bytes: %x and %x", n, one, two)
		}
	}
}
