package mac_test

import (
	"bytes"
	"crypto/hkdf"
	"crypto/hmac"
	"crypto/sha256"
	"encoding/hex"
	"math"
	"math/rand"
	"strings"
	"testing"

	"klaxon/api"
	"klaxon/mac"
)

// The calls keep the signatures that the chapter lists.
var (
	_ func([]byte, ...[]byte) []byte                = mac.Code
	_ func([]byte, []byte) []byte                   = mac.Extract
	_ func([]byte, []byte, int) ([]byte, api.Errno) = mac.Expand
	_ func([]byte, []byte) bool                     = mac.Equal
)

// keySizes lie about the size of a block, beyond which a key is hashed, and about the size of a hash.
var keySizes = []int{0, 1, 2, 31, 32, 33, 63, 64, 65, 66, 127, 128, 129, 1000, 70000}

// messageSizes lie about the ends of the hash's blocks, which the padded key shifts by just one block.
var messageSizes = []int{0, 1, 31, 32, 33, 54, 55, 56, 57, 63, 64, 65, 119, 120, 127, 128, 129, 1000}

// expandSizes are those at which a block of the expansion begins or ends, and the greatest.
var expandSizes = []int{0, 1, 2, 31, 32, 33, 63, 64, 65, 96, 97, 4096, 8127, 8128, 8129, 8159, 8160}

var wrongSizes = []int{-1, -2, -32, -8160, 8161, 8162, 8192, 65536, 1 << 31, 1 << 40, math.MaxInt, math.MinInt}

func bytesOf(n int, seed int) []byte {
	b := make([]byte, n)
	for i := range b {
		b[i] = byte(i*11 + i/256 + seed*29 + 5)
	}
	return b
}

func unhex(t *testing.T, s string) []byte {
	t.Helper()
	b, err := hex.DecodeString(strings.ReplaceAll(s, " ", ""))
	if err != nil {
		t.Fatal(err)
	}
	return b
}

func standardCode(key, message []byte) []byte {
	h := hmac.New(sha256.New, key)
	h.Write(message)
	return h.Sum(nil)
}

func standardExpansion(t *testing.T, key, info []byte, n int) []byte {
	t.Helper()
	b, err := hkdf.Expand(sha256.New, key, string(info), n)
	if err != nil {
		t.Fatal(err)
	}
	return b
}

func checkBytes(t *testing.T, what string, got, want []byte) {
	t.Helper()
	if !bytes.Equal(got, want) {
		t.Errorf("%s: got %x, want %x", what, got, want)
	}
}

func checkExpansion(t *testing.T, key, info []byte, n int) {
	t.Helper()
	got, e := mac.Expand(key, info, n)
	if e != api.OK {
		t.Errorf("Expand to %d bytes: error %d", n, e)
	}
	if len(got) != n {
		t.Errorf("Expand to %d bytes: got %d", n, len(got))
	}
	checkBytes(t, "Expand", got, standardExpansion(t, key, info, n))
}

// P2.1, Code: published answers, written out so that they hang on no other program: the chapter's example, and those of RFC 4231.
func TestCodeKnown(t *testing.T) {
	aa := bytes.Repeat([]byte{0xaa}, 131)
	for _, c := range []struct {
		key, message []byte
		want         string
	}{
		{[]byte("Jefe"), []byte("what do ya want for nothing?"), "5bdcc146 bf60754e 6a042426 089575c7 5a003f08 9d273983 9dec58b9 64ec3843"},
		{bytes.Repeat([]byte{0x0b}, 20), []byte("Hi There"), "b0344c61d8db38535ca8afceaf0bf12b881dc200c9833da726e9376c2e32cff7"},
		{aa[:20], bytes.Repeat([]byte{0xdd}, 50), "773ea91e36800e46854db8ebd09181a72959098b3ef8c122d9635514ced565fe"},
		{aa, []byte("Test Using Larger Than Block-Size Key - Hash Key First"), "60e431591ee0b67f0d8a26aacbf5b77f8e0bc6213728c5140546040f0ee37f54"},
		{aa, []byte("This is a test using a larger than block-size key and a larger than block-size data. The key needs to be hashed before being used by the HMAC algorithm."), "9b09ffa71b942fcb27635fbcd5b0e944bfdc63644f0713938a7f51535c3a35e2"},
		{nil, nil, "b613679a0814d9ec772f95d778c35fc5ff1697c493715653c6c712144292c5ad"},
	} {
		checkBytes(t, "Code of "+string(c.message), mac.Code(c.key, c.message), unhex(t, c.want))
	}
}

// P2.1, Code: keys about the size of a block, with messages about the ends of blocks.
func TestCodeKeysAndMessages(t *testing.T) {
	for _, k := range keySizes {
		for _, m := range messageSizes {
			key, message := bytesOf(k, 1), bytesOf(m, 2)
			checkBytes(t, "Code", mac.Code(key, message), standardCode(key, message))
		}
	}
}

// P2.1, Code: a short key ends with the zeros of its padding; a key of more than a block is as good as its hash, one of just a block is not.
func TestCodeBlockKey(t *testing.T) {
	message := bytesOf(40, 2)
	for _, k := range []int{0, 1, 32, 63} {
		key := bytesOf(k, 1)
		padded := append(bytes.Clone(key), make([]byte, 64-k)...)
		checkBytes(t, "a padded key", mac.Code(padded, message), mac.Code(key, message))
	}
	for _, k := range keySizes {
		key := bytesOf(k, 1)
		hash := sha256.Sum256(key)
		same := bytes.Equal(mac.Code(hash[:], message), mac.Code(key, message))
		if same != (k > 64) {
			t.Errorf("key of %d bytes: as good as its hash: %v", k, same)
		}
	}
	padded := append(bytesOf(64, 1), 0)
	if bytes.Equal(mac.Code(padded, message), mac.Code(padded[:64], message)) {
		t.Error("a zero beyond a block is not told apart")
	}
}

// P2.1, Code: a nil key is an empty key.
func TestCodeNilKey(t *testing.T) {
	for _, m := range messageSizes {
		message := bytesOf(m, 2)
		want := standardCode(nil, message)
		checkBytes(t, "a nil key", mac.Code(nil, message), want)
		checkBytes(t, "an empty key", mac.Code([]byte{}, message), want)
	}
}

// P2.1, Code, and P1: no parts, nil parts and empty parts are the empty message.
func TestCodeOfNothing(t *testing.T) {
	for _, k := range keySizes {
		key := bytesOf(k, 1)
		want := standardCode(key, nil)
		checkBytes(t, "no parts", mac.Code(key), want)
		checkBytes(t, "a nil part", mac.Code(key, nil), want)
		checkBytes(t, "a nil list of parts", mac.Code(key, [][]byte(nil)...), want)
		checkBytes(t, "an empty list of parts", mac.Code(key, [][]byte{}...), want)
		checkBytes(t, "empty parts", mac.Code(key, []byte{}, nil, []byte{}), want)
	}
}

// P2.1, Code: a message has one code in whatever parts it comes, and their order counts.
func TestCodeParts(t *testing.T) {
	for _, k := range []int{0, 4, 64, 65} {
		key := bytesOf(k, 1)
		for _, m := range []int{1, 32, 55, 56, 64, 65, 130} {
			message := bytesOf(m, 2)
			want := standardCode(key, message)
			for cut := range m + 1 {
				checkBytes(t, "two parts", mac.Code(key, message[:cut], message[cut:]), want)
				checkBytes(t, "parts and nothing between", mac.Code(key, nil, message[:cut], []byte{}, message[cut:], nil), want)
			}
			checkBytes(t, "single bytes", mac.Code(key, singles(message)...), want)
		}
	}
	if bytes.Equal(mac.Code(nil, []byte("ab"), []byte("c")), mac.Code(nil, []byte("c"), []byte("ab"))) {
		t.Error("parts in another order have the same code")
	}
	if bytes.Equal(mac.Code([]byte("a"), []byte("bc")), mac.Code([]byte("ab"), []byte("c"))) {
		t.Error("the key runs into the message")
	}
}

func singles(message []byte) [][]byte {
	var parts [][]byte
	for i := range message {
		parts = append(parts, message[i:i+1])
	}
	return parts
}

func TestCodeRandom(t *testing.T) {
	r := rand.New(rand.NewSource(1))
	for range 500 {
		key, message := make([]byte, r.Intn(200)), make([]byte, r.Intn(500))
		r.Read(key)
		r.Read(message)
		cut := r.Intn(len(message) + 1)
		checkBytes(t, "Code", mac.Code(key, message[:cut], message[cut:]), standardCode(key, message))
	}
}

// P2.1, Extract and Expand: published answers of RFC 5869, with SHA-256.
func TestDerivedKeysKnown(t *testing.T) {
	for _, c := range []struct {
		material, salt, info, key, want string
	}{
		{
			"0b0b0b0b0b0b0b0b0b0b0b0b0b0b0b0b0b0b0b0b0b0b",
			"000102030405060708090a0b0c",
			"f0f1f2f3f4f5f6f7f8f9",
			"077709362c2e32df0ddc3f0dc47bba6390b6c73bb50f9c3122ec844ad7c2b3e5",
			"3cb25f25faacd57a90434f64d0362f2a2d2d0a90cf1a5a4c5db02d56ecc4c5bf34007208d5b887185865",
		},
		{
			hex.EncodeToString(ascending(0x00, 80)),
			hex.EncodeToString(ascending(0x60, 80)),
			hex.EncodeToString(ascending(0xb0, 80)),
			"06a6b88c5853361a06104c9ceb35b45cef760014904671014a193f40c15fc244",
			"b11e398dc80327a1c8e7f78c596a49344f012eda2d4efad8a050cc4c19afa97c59045a99cac7827271cb41c65e590e09da3275600c2f09b8367793a9aca3db71cc30c58179ec3e87c14c01d5c1f3434f1d87",
		},
		{
			"0b0b0b0b0b0b0b0b0b0b0b0b0b0b0b0b0b0b0b0b0b0b",
			"",
			"",
			"19ef24a32c717b167f33a91d6f648bdf96596776afdb6377ac434c1c293ccb04",
			"8da4e775a563c18f715f802a063c5a31b8a11f5c5ee1879ec3454e5f3c738d2d9d201395faa4b61a96c8",
		},
	} {
		key := mac.Extract(unhex(t, c.salt), unhex(t, c.material))
		checkBytes(t, "Extract", key, unhex(t, c.key))
		want := unhex(t, c.want)
		got, e := mac.Expand(key, unhex(t, c.info), len(want))
		if e != api.OK {
			t.Errorf("Expand: error %d", e)
		}
		checkBytes(t, "Expand", got, want)
	}
}

func ascending(first byte, n int) []byte {
	b := make([]byte, n)
	for i := range b {
		b[i] = first + byte(i)
	}
	return b
}

// P2.1, Extract: the salt is the key of the code, the material its message.
func TestExtract(t *testing.T) {
	for _, s := range keySizes {
		for _, m := range messageSizes {
			salt, material := bytesOf(s, 3), bytesOf(m, 4)
			got := mac.Extract(salt, material)
			checkBytes(t, "Extract", got, standardCode(salt, material))
			checkBytes(t, "Extract beside Code", got, mac.Code(salt, material))
			want, err := hkdf.Extract(sha256.New, material, salt)
			if err != nil {
				t.Fatal(err)
			}
			checkBytes(t, "Extract", got, want)
		}
	}
}

// P2.1, Extract: an empty salt and a nil salt are the same, as are such materials.
func TestExtractOfNothing(t *testing.T) {
	for _, m := range messageSizes {
		material := bytesOf(m, 4)
		want := standardCode(make([]byte, 32), material)
		checkBytes(t, "a nil salt", mac.Extract(nil, material), want)
		checkBytes(t, "an empty salt", mac.Extract([]byte{}, material), want)
	}
	want := standardCode([]byte("salt"), nil)
	checkBytes(t, "nil material", mac.Extract([]byte("salt"), nil), want)
	checkBytes(t, "empty material", mac.Extract([]byte("salt"), []byte{}), want)
	checkBytes(t, "nothing at all", mac.Extract(nil, nil), standardCode(nil, nil))
}

// P2.1, Expand: every size about the ends of blocks up to the greatest, with keys and infos of many sizes.
func TestExpand(t *testing.T) {
	for _, n := range expandSizes {
		for _, k := range []int{0, 1, 32, 64, 65, 200} {
			for _, i := range []int{0, 1, 31, 64, 300} {
				checkExpansion(t, bytesOf(k, 5), bytesOf(i, 6), n)
			}
		}
	}
	for n := range 300 {
		checkExpansion(t, []byte("key"), []byte("info"), n)
	}
}

// P2.1, Expand: nil and empty keys and infos are the same.
func TestExpandOfNothing(t *testing.T) {
	for _, n := range expandSizes {
		want := standardExpansion(t, nil, nil, n)
		for _, key := range [][]byte{nil, {}} {
			for _, info := range [][]byte{nil, {}} {
				got, e := mac.Expand(key, info, n)
				if e != api.OK {
					t.Errorf("%d bytes: error %d", n, e)
				}
				checkBytes(t, "Expand", got, want)
			}
		}
	}
}

// P2.1, Expand: each block is the code of the block before it, the info and its number.
func TestExpandBlocks(t *testing.T) {
	key, info := bytesOf(32, 5), bytesOf(10, 6)
	all, e := mac.Expand(key, info, 8160)
	if e != api.OK || len(all) != 8160 {
		t.Fatalf("%d bytes, error %d", len(all), e)
	}
	var previous []byte
	for number := 1; number <= 255; number++ {
		block := all[(number-1)*32 : number*32]
		message := append(append(bytes.Clone(previous), info...), byte(number))
		checkBytes(t, "block", block, standardCode(key, message))
		previous = block
	}
}

// P2.1, Expand: fewer bytes are the beginning of more.
func TestExpandBeginnings(t *testing.T) {
	key, info := bytesOf(32, 5), bytesOf(10, 6)
	all, _ := mac.Expand(key, info, 8160)
	if len(all) != 8160 {
		t.Fatalf("%d bytes", len(all))
	}
	for n := 0; n <= 8160; n += 17 {
		got, e := mac.Expand(key, info, n)
		if e != api.OK || !bytes.Equal(got, all[:n]) {
			t.Errorf("%d bytes: not the beginning of more (error %d)", n, e)
		}
	}
	for _, n := range expandSizes {
		got, e := mac.Expand(key, info, n)
		if e != api.OK || !bytes.Equal(got, all[:n]) {
			t.Errorf("%d bytes: not the beginning of more (error %d)", n, e)
		}
	}
}

// P2.1, Expand: a size out of 0 to 8160 is refused, with nothing beside the error.
func TestExpandWrongSizes(t *testing.T) {
	for _, n := range wrongSizes {
		for _, key := range [][]byte{nil, bytesOf(32, 5), bytesOf(100, 5)} {
			got, e := mac.Expand(key, []byte("info"), n)
			if e != api.ErrSize || len(got) != 0 {
				t.Errorf("n = %d: %d bytes, error %d", n, len(got), e)
			}
		}
	}
}

// P2.1, Equal: equal bytes of any size, in the same memory or in another.
func TestEqual(t *testing.T) {
	for _, n := range append(keySizes, messageSizes...) {
		a := bytesOf(n, 7)
		if !mac.Equal(a, a) || !mac.Equal(a, bytesOf(n, 7)) {
			t.Errorf("%d equal bytes are told unequal", n)
		}
	}
}

// P2.1, Equal: one changed bit in any place, or any other value there, makes bytes unequal.
func TestEqualDifferentBytes(t *testing.T) {
	for _, n := range []int{1, 2, 3, 31, 32, 33, 64, 200} {
		a := bytesOf(n, 7)
		for i := range n {
			for bit := range 8 {
				b := bytes.Clone(a)
				b[i] ^= 1 << bit
				checkUnequal(t, a, b)
			}
		}
	}
	for x := range 256 {
		for y := range 256 {
			a, b := []byte{9, byte(x), 9}, []byte{9, byte(y), 9}
			if mac.Equal(a, b) != (x == y) {
				t.Errorf("%d beside %d", x, y)
			}
		}
	}
}

// Differences that would cancel each other if they were added or xored are differences.
func TestEqualSeveralDifferences(t *testing.T) {
	a := bytesOf(32, 7)
	for i := range a {
		for j := range i {
			b := bytes.Clone(a)
			b[i] ^= 0x40
			b[j] ^= 0x40
			checkUnequal(t, a, b)
			b = bytes.Clone(a)
			b[i]++
			b[j]--
			checkUnequal(t, a, b)
			b = bytes.Clone(a)
			b[i], b[j] = a[j], a[i]
			if mac.Equal(a, b) != (a[i] == a[j]) {
				t.Errorf("places %d and %d exchanged", i, j)
			}
		}
	}
}

// P2.1, Equal: unequal lengths, also where one is the beginning of the other, or differs by zeros alone.
func TestEqualDifferentLengths(t *testing.T) {
	a := bytesOf(70, 7)
	zeros := make([]byte, 70)
	for i := range a {
		checkUnequal(t, a, a[:i])
		checkUnequal(t, a, a[i+1:])
		checkUnequal(t, zeros, zeros[:i])
	}
	checkUnequal(t, nil, []byte{0})
	checkUnequal(t, []byte{}, []byte{0})
}

func checkUnequal(t *testing.T, a, b []byte) {
	t.Helper()
	if mac.Equal(a, b) || mac.Equal(b, a) {
		t.Errorf("%x and %x are told equal", a, b)
	}
}

// P2.1, Equal: nil is an empty list.
func TestEqualNil(t *testing.T) {
	room := []byte("spare")
	for _, a := range [][]byte{nil, {}, room[:0], room[2:2]} {
		for _, b := range [][]byte{nil, {}, room[:0], room[5:]} {
			if !mac.Equal(a, b) {
				t.Errorf("nothing (nil: %v) beside nothing (nil: %v) is told unequal", a == nil, b == nil)
			}
		}
	}
}

// Rules, Memory: arguments are not changed, nor is what lies about them in the same memory.
func TestArgumentsAreNotChanged(t *testing.T) {
	for _, k := range []int{0, 1, 32, 63, 64, 65, 150} {
		room := bytesOf(1000, 8)
		before := bytes.Clone(room)
		key, one, two := room[100:100+k], room[400:431], room[420:520]
		parts := make([][]byte, 2, 8)
		parts[0], parts[1] = one, two
		mac.Code(key, parts...)
		mac.Extract(key, two)
		for _, n := range []int{0, 1, 32, 100, -1, 8161} {
			mac.Expand(key, one, n)
		}
		mac.Equal(key, two[:min(k, 100)])
		mac.Equal(key, key)
		if !bytes.Equal(room, before) {
			t.Errorf("key of %d bytes: an argument or its surroundings changed", k)
		}
		if !bytes.Equal(parts[0], one) || !bytes.Equal(parts[1], two) {
			t.Errorf("key of %d bytes: the list of parts changed", k)
		}
		for i, p := range parts[:8][2:] {
			if p != nil {
				t.Errorf("key of %d bytes: spare part %d changed", k, i)
			}
		}
	}
}

// Rules, Memory: nothing that was passed is kept: changing it afterwards changes no result, and no later call.
func TestArgumentsAreNotKept(t *testing.T) {
	for _, k := range []int{0, 1, 32, 63, 64, 65, 150} {
		key, message := bytesOf(k, 1), bytesOf(50, 2)
		code, extracted := mac.Code(key, message), mac.Extract(key, message)
		expanded, _ := mac.Expand(key, message, 100)
		spoil(key)
		spoil(message)
		key, message = bytesOf(k, 1), bytesOf(50, 2)
		want, wantExpanded := standardCode(key, message), standardExpansion(t, key, message, 100)
		checkBytes(t, "the code", code, want)
		checkBytes(t, "the extracted key", extracted, want)
		checkBytes(t, "the expansion", expanded, wantExpanded)
		checkBytes(t, "a later code", mac.Code(key, message), want)
		checkExpansion(t, key, message, 100)
	}
}

// Rules, Memory: results are new memory with their spare capacity: changing one changes no argument and no other result.
func TestResultsAreNotShared(t *testing.T) {
	for _, k := range []int{0, 1, 32, 63, 64, 65, 150} {
		key, message := bytesOf(k, 1), bytesOf(50, 2)
		want := standardCode(key, message)
		first, second := mac.Code(key, message), mac.Code(key, message)
		third, fourth := mac.Extract(key, message), mac.Extract(key, message)
		spoil(first)
		spoil(third)
		checkBytes(t, "the second code", second, want)
		checkBytes(t, "the fourth code", fourth, want)
		for _, n := range expandSizes {
			one, _ := mac.Expand(key, message, n)
			other, _ := mac.Expand(key, message, n)
			spoil(one)
			checkBytes(t, "the other expansion", other, standardExpansion(t, key, message, n))
			checkExpansion(t, key, message, n)
		}
		checkBytes(t, "the key", key, bytesOf(k, 1))
		checkBytes(t, "the message", message, bytesOf(50, 2))
		checkBytes(t, "a later code", mac.Code(key, message), want)
	}
}

func spoil(b []byte) {
	b = b[:cap(b)]
	for i := range b {
		b[i] = 0xa5
	}
}

// A result that is passed again is an argument like any other, also as key and part at once.
func TestResultsPassedAgain(t *testing.T) {
	code := []byte("first")
	want := bytes.Clone(code)
	for range 20 {
		code = mac.Code(code, code, code)
		want = standardCode(want, append(bytes.Clone(want), want...))
		checkBytes(t, "chained", code, want)
	}
	got, e := mac.Expand(code, code, 100)
	if e != api.OK {
		t.Errorf("Expand: error %d", e)
	}
	checkBytes(t, "Expand", got, standardExpansion(t, want, want, 100))
}

// Rules, Determinism: equal arguments, equal answers; a code has 32 bytes.
func TestSizesAndDeterminism(t *testing.T) {
	for _, k := range keySizes {
		key, message := bytesOf(k, 1), bytesOf(50, 2)
		one, two := mac.Code(key, message), mac.Code(key, message)
		if len(one) != 32 || !bytes.Equal(one, two) {
			t.Errorf("Code: %x and %x", one, two)
		}
		one, two = mac.Extract(key, message), mac.Extract(key, message)
		if len(one) != 32 || !bytes.Equal(one, two) {
			t.Errorf("Extract: %x and %x", one, two)
		}
	}
}
