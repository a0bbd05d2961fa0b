package hash_test

import (
	"bytes"
	"crypto/sha256"
	"encoding/hex"
	"math"
	"math/rand/v2"
	"slices"
	"strings"
	"testing"

	"alum/api"
	"alum/hash"
	"alum/wire"
)

// sizes are the lengths of messages around which the padding of SHA-256 changes, and others.
var sizes = []int{0, 1, 2, 5, 31, 54, 55, 56, 57, 62, 63, 64, 65, 66, 118, 119, 120, 121, 127, 128, 129, 183, 184, 191, 192, 193}

// chance returns a source of bytes that are the same in every run.
func chance(seed byte) *rand.ChaCha8 { return rand.NewChaCha8([32]byte{seed}) }

// message returns the next n bytes of a source.
func message(r *rand.ChaCha8, n int) []byte {
	b := make([]byte, n)
	r.Read(b)
	return b
}

// below returns an integer from 0 to n-1.
func below(r *rand.ChaCha8, n int) int { return int(r.Uint64() % uint64(n)) }

// plainCrc is the check as the chapter describes it, bit by bit.
func plainCrc(b []byte) int {
	register := api.MaxWord
	for _, c := range b {
		for i := 7; i >= 0; i-- {
			f := (int(c)>>i)&1 ^ register>>39
			register = register << 1 & api.MaxWord
			if f == 1 {
				register ^= 0x0004820009
			}
		}
	}
	return api.MaxWord - register
}

// bytesOf are the bytes of P2.2, by divisions.
func bytesOf(l []int) []byte {
	var b []byte
	for _, n := range l {
		n %= 1 << 40
		if n < 0 {
			n += 1 << 40
		}
		b = append(b, byte(n>>32), byte(n>>24&255), byte(n>>16&255), byte(n>>8&255), byte(n&255))
	}
	return b
}

// plainTimes multiplies two polynomials modulo that of the check: first all powers of x are added up, then reduced.
func plainTimes(p, q int) int {
	var product [80]int
	for i := range 40 {
		for j := range 40 {
			product[i+j] ^= (p >> i) & (q >> j) & 1
		}
	}
	for i := 79; i >= 40; i-- {
		for _, low := range []int{26, 23, 17, 3, 0} {
			product[i-40+low] ^= product[i]
		}
	}
	result := 0
	for i := range 40 {
		result |= product[i] << i
	}
	return result
}

// plainJoin is P2.3 for n from 0 on, with x^(8*n) as a product of powers that are squares of each other.
func plainJoin(a, b, n int) int {
	p, power := a&api.MaxWord, 1<<8
	for i := range 63 {
		if n>>i&1 == 1 {
			p = plainTimes(p, power)
		}
		power = plainTimes(power, power)
	}
	return p ^ b&api.MaxWord
}

// plainOf is P2.5 with the library's SHA-256.
func plainOf(tag int, parts []string) api.Digest {
	for tag %= 256; tag < 0; {
		tag += 256
	}
	b := []byte{byte(tag)}
	for _, p := range parts {
		b = append(b, wire.Bytes(p)...)
	}
	sum := sha256.Sum256(b)
	return api.Digest(sum[:16])
}

func TestP21Crc40(t *testing.T) {
	for _, x := range []struct {
		b    string
		want int
	}{
		{"", 0}, {"\xff", 255}, {"\xff\xff", 65535}, {"\xfe", 0x00048200f6}, {"\x00", 0x03827e07f8},
		{"\xff\xff\xff\xff\xff", api.MaxWord}, {"abc", 0x0c4fc59d17}, {"123456789", 0x6dfb3eb59b},
		{strings.Repeat("\x00", 40), 0xc5aa600b54},
	} {
		if got := hash.Crc40([]byte(x.b)); got != x.want {
			t.Errorf("P2.1: the check of %q is %#x; want %#x", x.b, got, x.want)
		}
		if got := hash.BeginCrc().Add(x.b).Value(); got != x.want {
			t.Errorf("P2.1: the check of %q, added, is %#x; want %#x", x.b, got, x.want)
		}
	}
	if hash.Crc40(nil) != 0 || hash.BeginCrc().Value() != 0 {
		t.Error("P2.1: the check of no bytes is not 0")
	}
}

func TestP21AllShort(t *testing.T) {
	r := chance(1)
	for i := range 1<<16 + 3000 {
		b := []byte{byte(i >> 8), byte(i)}
		switch {
		case i < 256:
			b = b[1:]
		case i >= 1<<16:
			b = message(r, below(r, 100))
		}
		kept := slices.Clone(b)
		if got, want := hash.Crc40(b), plainCrc(kept); got != want {
			t.Fatalf("P2.1: the check of %v is %#x; want %#x", kept, got, want)
		}
		if !bytes.Equal(b, kept) {
			t.Fatalf("P2.1: Crc40 changes %v to %v", kept, b)
		}
	}
}

func TestP21Shared(t *testing.T) {
	r := chance(2)
	for _, n := range sizes {
		head, left, right := message(r, n), message(r, 70), message(r, 9)
		c := hash.BeginCrc().Add(string(head))
		one, two := c.Add(string(left)), c.Add(string(right))
		three := one.Add(string(right))
		for range 2 { // asking for a value changes nothing either
			if c.Value() != plainCrc(head) || one.Value() != plainCrc(slices.Concat(head, left)) {
				t.Error("P2.1: a Crc of", n, "bytes changes, or its first continuation does")
			}
			if two.Value() != plainCrc(slices.Concat(head, right)) || three.Value() != plainCrc(slices.Concat(head, left, right)) {
				t.Error("P2.1: a later continuation of a Crc of", n, "bytes is not right")
			}
		}
	}
}

// someWords returns integers in and outside of the range of words.
func someWords() []int {
	l := []int{0, 1, 255, 256, api.MaxWord - 1, api.MaxWord, api.MaxWord + 1, 1<<41 + 5, math.MaxInt, math.MaxInt - 1, math.MinInt, math.MinInt + 1}
	for i := range 63 {
		l = append(l, 1<<i, -1<<i, 1<<i-1, -1<<i-1)
	}
	return l
}

func TestP22Words(t *testing.T) {
	for _, x := range []struct {
		l    []int
		want int
	}{
		{nil, 0}, {[]int{}, 0},
		{[]int{api.MaxWord}, api.MaxWord}, {[]int{api.MaxWord - 1}, 0xfffb7dfff6},
		{[]int{-1}, api.MaxWord}, {[]int{-2}, 0xfffb7dfff6}, {[]int{math.MaxInt}, api.MaxWord}, {[]int{1<<41 - 2}, 0xfffb7dfff6},
		{[]int{0}, plainCrc(make([]byte, 5))}, {[]int{1 << 40}, plainCrc(make([]byte, 5))},
		{[]int{-1 << 40}, plainCrc(make([]byte, 5))}, {[]int{math.MinInt}, plainCrc(make([]byte, 5))},
		{[]int{0x0102030405}, plainCrc([]byte{1, 2, 3, 4, 5})},
		{[]int{0x0102030405, 0x060708090a}, plainCrc([]byte{1, 2, 3, 4, 5, 6, 7, 8, 9, 10})},
		{[]int{0x7f0102030405}, plainCrc([]byte{1, 2, 3, 4, 5})}, {[]int{0, 0}, plainCrc(make([]byte, 10))},
	} {
		if got := hash.Words(x.l); got != x.want {
			t.Errorf("P2.2: Words(%v) is %#x; want %#x", x.l, got, x.want)
		}
	}
}

func TestP22Many(t *testing.T) {
	l := someWords()
	for i, n := range l {
		for _, list := range [][]int{{n}, {n, l[len(l)-1-i]}, l[i:], l[:i]} {
			kept := slices.Clone(list)
			if got, want := hash.Words(list), plainCrc(bytesOf(kept)); got != want {
				t.Fatalf("P2.2: Words(%v) is %#x; want %#x", kept, got, want)
			}
			if !slices.Equal(list, kept) {
				t.Fatalf("P2.2: Words changes %v to %v", kept, list)
			}
		}
	}
}

func TestP23Join(t *testing.T) {
	for _, x := range []struct{ a, b, n, want int }{
		{255, 255, 1, 65535}, {255, 0, 1, 65280}, {7, 9, 0, 14}, {1, 1, -1, 0},
		{1, 0, 5, 0x0004820009}, {0, 0, 0, 0}, {0, 77, math.MaxInt, 77}, {api.MaxWord, 0, 0, api.MaxWord},
		{1, 0, math.MaxInt, 0x55b401ab68}, {api.MaxWord, api.MaxWord, math.MaxInt, 0xa4e8ffb5d1},
		{5, 7, math.MaxInt - 1, 0x8901011705}, {1, 0, 1 << 62, 0x500c00b018}, {1, 0, 1<<61 + 1, 0xe4790188f2},
		{1, 0, 1 << 60, 0x383300706e},
		// Only the lowest 40 bits count.
		{-1, -1, math.MaxInt, 0xa4e8ffb5d1}, {1 << 40, 0, 3, 0}, {math.MinInt, math.MaxInt, 3, api.MaxWord},
		{math.MaxInt, math.MinInt, 3, 0x0fc7fc1f8e}, {1<<40 + 3, -2, 2, 0xfffffcfffe}, {-1, 0, 0, api.MaxWord},
		{0, -1 << 40, 0, 0}, {0, -1, 9, api.MaxWord},
		{1, 1, math.MinInt, 0}, {5, 6, -2, 0}, {-1, -1, -1, 0}, {api.MaxWord, 1, -math.MaxInt, 0},
	} {
		if got := hash.Join(x.a, x.b, x.n); got != x.want {
			t.Errorf("P2.3: Join(%d, %d, %d) is %#x; want %#x", x.a, x.b, x.n, got, x.want)
		}
	}
}

func TestP23Messages(t *testing.T) {
	r := chance(3)
	for _, n := range sizes {
		for _, m := range sizes {
			a, b := message(r, n), message(r, m)
			if got, want := hash.Join(plainCrc(a), plainCrc(b), m), plainCrc(slices.Concat(a, b)); got != want {
				t.Errorf("P2.3: joined, the checks of %d and of %d bytes are %#x; want %#x", n, m, got, want)
			}
		}
	}
}

func TestP23Many(t *testing.T) {
	l := someWords()
	for i, n := range l {
		a, b := l[(7*i+3)%len(l)], l[(5*i+1)%len(l)]
		want := 0
		if n >= 0 {
			want = plainJoin(a, b, n)
		}
		if got := hash.Join(a, b, n); got != want {
			t.Fatalf("P2.3: Join(%d, %d, %d) is %#x; want %#x", a, b, n, got, want)
		}
	}
}

// TestP23Steps ends only if the steps do not grow with n.
func TestP23Steps(t *testing.T) {
	want := hash.Join(1, 0, math.MaxInt)
	for range 10000 {
		if hash.Join(1, 0, math.MaxInt) != want {
			t.Fatal("P2.3: Join changes from call to call")
		}
	}
}

// hashes checks all the ways to the hash of b.
func hashes(t *testing.T, b []byte, want [32]byte) {
	t.Helper()
	kept := slices.Clone(b)
	s := hash.Begin().Add(string(b))
	if hash.Sum(b) != want || s.Sum() != want || s.Sum() != want {
		t.Errorf("P2.4: of %d bytes, the hash is %x, and that of the stream %x; want %x", len(b), hash.Sum(b), s.Sum(), want)
	}
	if !bytes.Equal(b, kept) {
		t.Errorf("P2.4: Sum changes its argument of %d bytes", len(b))
	}
}

func TestP24Known(t *testing.T) {
	var ramp []byte
	for i := range 120 {
		ramp = append(ramp, byte(i))
	}
	for _, x := range []struct {
		b    string
		want string
	}{
		{"", "e3b0c44298fc1c149afbf4c8996fb92427ae41e4649b934ca495991b7852b855"},
		{"abc", "ba7816bf8f01cfea414140de5dae2223b00361a396177a9cb410ff61f20015ad"},
		{string(ramp[:55]), "463eb28e72f82e0a96c0a4cc53690c571281131f672aa229e0d45ae59b598b59"},
		{string(ramp[:56]), "da2ae4d6b36748f2a318f23e7ab1dfdf45acdc9d049bd80e59de82a60895f562"},
		{string(ramp[:63]), "29af2686fd53374a36b0846694cc342177e428d1647515f078784d69cdb9e488"},
		{string(ramp[:64]), "fdeab9acf3710362bd2658cdc9a29e8f9c757fcf9811603a8c447cd1d9151108"},
		{string(ramp[:65]), "4bfd2c8b6f1eec7a2afeb48b934ee4b2694182027e6d0fc075074f2fabb31781"},
		{string(ramp[:119]), "da18797ed7c3a777f0847f429724a2d8cd5138e6ed2895c3fa1a6d39d18f7ec6"},
		{string(ramp), "f52b23db1fbb6ded89ef42a23ce0c8922c45f25c50b568a93bf1c075420bbb7c"},
		{strings.Repeat("a", 1000000), "cdc76e5c9914fb9281a1c7e284d73e67f1809a48a497200e046d39ccc7112cd0"},
	} {
		want, _ := hex.DecodeString(x.want)
		hashes(t, []byte(x.b), [32]byte(want))
	}
	hashes(t, nil, hash.Begin().Sum())
}

func TestP24Many(t *testing.T) {
	r := chance(4)
	for n := range 700 {
		b := message(r, n)
		hashes(t, b, sha256.Sum256(b))
		hashes(t, make([]byte, n), sha256.Sum256(make([]byte, n)))
	}
}

// TestP24Long has a message whose length in bits does not fit into 32 bits.
func TestP24Long(t *testing.T) {
	piece := strings.Repeat("0123456789abcdef", 1<<16)
	s, want := hash.Begin().Add("xyz"), sha256.New()
	want.Write([]byte("xyz"))
	for range 1 << 9 {
		s = s.Add(piece)
		want.Write([]byte(piece))
	}
	if got := s.Sum(); !bytes.Equal(got[:], want.Sum(nil)) {
		t.Errorf("P2.4: of a long message, the hash is %x; want %x", got, want.Sum(nil))
	}
}

func TestP24Shared(t *testing.T) {
	r := chance(5)
	for _, n := range sizes {
		head := message(r, n)
		s := hash.Begin().Add(string(head))
		for _, m := range sizes {
			left, right := message(r, m), message(r, 66)
			one, two := s.Add(string(left)), s.Add(string(right))
			three := one.Add(string(right))
			for range 2 { // asking for a sum changes nothing either
				if s.Sum() != sha256.Sum256(head) || one.Sum() != sha256.Sum256(slices.Concat(head, left)) {
					t.Error("P2.4: a stream of", n, "bytes changes, or its continuation by", m, "bytes does")
				}
				if two.Sum() != sha256.Sum256(slices.Concat(head, right)) || three.Sum() != sha256.Sum256(slices.Concat(head, left, right)) {
					t.Error("P2.4: a later continuation of a stream of", n, "bytes is not right")
				}
			}
		}
	}
}

func TestP25Known(t *testing.T) {
	for _, x := range []struct {
		tag   int
		parts []string
		want  string
	}{
		{1, nil, "4bf5122f344554c53bde2ebb8cd2b7e3"}, {1, []string{}, "4bf5122f344554c53bde2ebb8cd2b7e3"},
		{257, nil, "4bf5122f344554c53bde2ebb8cd2b7e3"}, {-255, nil, "4bf5122f344554c53bde2ebb8cd2b7e3"},
		{0, nil, "6e340b9cffb37a989ca544e6bb780a2c"}, {256, nil, "6e340b9cffb37a989ca544e6bb780a2c"},
		{-256, nil, "6e340b9cffb37a989ca544e6bb780a2c"}, {math.MinInt, nil, "6e340b9cffb37a989ca544e6bb780a2c"},
		{255, nil, "a8100ae6aa1940d0b663bb31cd466142"}, {-1, nil, "a8100ae6aa1940d0b663bb31cd466142"},
		{math.MaxInt, nil, "a8100ae6aa1940d0b663bb31cd466142"},
		{1, []string{""}, "47dc540c94ceb704a23875c11273e16b"},
		{47, []string{"ab", ""}, "b25a92cb716344455996493a9a7c3f80"},
		{47, []string{"a", "b"}, "5c5d2d3f3358b7b2a273981e06d3fef3"},
		{48, []string{strings.Repeat("x", 64)}, "0a8fb75a7001fc2296e5e6150b2e996f"},
	} {
		if d := hash.Of(x.tag, x.parts...); hex.EncodeToString(d[:]) != x.want {
			t.Errorf("P2.5: Of(%d, %q) is %x; want %s", x.tag, x.parts, d, x.want)
		}
	}
}

func TestP25Many(t *testing.T) {
	r := chance(6)
	var parts []string
	for _, n := range slices.Concat(sizes, []int{0, 0, 8191, 8192, 3}) {
		parts = append(parts, string(message(r, n)))
		kept := slices.Clone(parts)
		for _, tag := range []int{n, -n, n - 128, 1000*n + 77, 48} {
			if got, want := hash.Of(tag, parts...), plainOf(tag, kept); got != want {
				t.Errorf("P2.5: with %d parts, Of(%d) is %x; want %x", len(kept), tag, got, want)
			}
		}
		if !slices.Equal(parts, kept) {
			t.Fatal("P2.5: Of changes its parts")
		}
	}
	for tag := -1000; tag <= 1000; tag++ {
		if got, want := hash.Of(tag, "a", ""), plainOf(tag, []string{"a", ""}); got != want {
			t.Errorf("P2.5: Of(%d) is %x; want %x", tag, got, want)
		}
	}
}

// exclusiveOr combines messages of the same length.
func exclusiveOr(first []byte, others ...[]byte) []byte {
	b := slices.Clone(first)
	for _, other := range others {
		for i, c := range other {
			b[i] ^= c
		}
	}
	return b
}

func TestP26Linearity(t *testing.T) {
	r := chance(7)
	for i := range 6000 {
		n := i % 200
		a, b, c := message(r, n), message(r, n), message(r, n)
		switch i % 5 {
		case 0:
			b = make([]byte, n)
		case 1:
			c = bytes.Repeat([]byte{255}, n)
		}
		if hash.Crc40(exclusiveOr(a, b, c)) != hash.Crc40(a)^hash.Crc40(b)^hash.Crc40(c) {
			t.Fatalf("P2.6: not linear for %v, %v and %v", a, b, c)
		}
	}
}

// burst checks that the check of b differs when the bits of pattern are flipped from bit at on.
func burst(t *testing.T, b []byte, at, pattern int) {
	t.Helper()
	other := slices.Clone(b)
	for i := range 40 {
		bit := pattern >> (39 - i) & 1
		other[(at+i)/8] ^= byte(bit << (7 - (at+i)%8))
	}
	if hash.Crc40(b) == hash.Crc40(other) {
		t.Fatalf("P2.7: %v and %v have the same check", b, other)
	}
}

func TestP27Bursts(t *testing.T) {
	r := chance(8)
	for _, n := range []int{5, 6, 9, 40} {
		for at := 0; at+40 <= 8*n; at++ {
			b := message(r, n)
			for i := range 40 { // one flipped bit, or two of them
				for j := range 40 {
					burst(t, b, at, 1<<i|1<<j)
				}
			}
			for range 300 { // the first and the last bit of the burst, and others between
				burst(t, b, at, int(r.Uint64())&api.MaxWord|1<<39|1)
			}
			burst(t, b, at, api.MaxWord)
			burst(t, b, at, 0x0004820009)
		}
	}
	b := message(r, 7)
	for pattern := 1; pattern < 1<<16; pattern++ {
		burst(t, b, pattern%17, pattern)
		burst(t, b, pattern%17, pattern<<24)
	}
}

func TestP28Messages(t *testing.T) {
	r := chance(9)
	for range 3000 {
		a, b, c := message(r, below(r, 70)), message(r, below(r, 70)), message(r, below(r, 70))
		x, y, z := hash.Crc40(a), hash.Crc40(b), hash.Crc40(c)
		whole := hash.Crc40(slices.Concat(a, b, c))
		first := hash.Join(hash.Join(x, y, len(b)), z, len(c))
		last := hash.Join(x, hash.Join(y, z, len(c)), len(b)+len(c))
		if first != whole || last != whole {
			t.Fatalf("P2.8: the checks of %v, %v and %v are joined to %#x and %#x; want %#x", a, b, c, first, last, whole)
		}
	}
}

func TestP28Lengths(t *testing.T) {
	lengths := []int{0, 1, 2, 5, 1<<31 - 1, 1 << 31, 1<<60 - 1, 1 << 60, 1 << 61, 1<<62 - 1, 1 << 62, math.MaxInt - 1, math.MaxInt}
	r := chance(10)
	for range 30 {
		lengths = append(lengths, int(r.Uint64()>>1>>below(r, 60)))
	}
	for _, n := range lengths {
		for _, m := range lengths {
			if n > math.MaxInt-m { // the sum is no argument
				continue
			}
			a := int(r.Uint64())
			if hash.Join(hash.Join(a, 0, n), 0, m) != hash.Join(a, 0, n+m) {
				t.Fatalf("P2.8: joining %d with %d and %d bytes is not joining it with all of them", a, n, m)
			}
		}
	}
}

// added checks the check and the hash of the pieces in a row.
func added(t *testing.T, pieces ...string) {
	t.Helper()
	c, s := hash.BeginCrc(), hash.Begin()
	for _, p := range pieces {
		c, s = c.Add(p), s.Add(p)
	}
	whole := []byte(strings.Join(pieces, ""))
	if c.Value() != plainCrc(whole) {
		t.Fatalf("P2.9: the check of the pieces %q is %#x; want %#x", pieces, c.Value(), plainCrc(whole))
	}
	if s.Sum() != sha256.Sum256(whole) {
		t.Fatalf("P2.9: the hash of the pieces %q is %x; want %x", pieces, s.Sum(), sha256.Sum256(whole))
	}
}

func TestP29TwoPieces(t *testing.T) {
	r := chance(11)
	for _, n := range sizes {
		text := string(message(r, n))
		for cut := 0; cut <= n; cut++ {
			added(t, text[:cut], text[cut:])
			added(t, "", text[:cut], "", "", text[cut:], "")
		}
	}
	added(t)
	added(t, "", "", "")
}

func TestP29ManyPieces(t *testing.T) {
	r := chance(12)
	for _, n := range sizes {
		text := string(message(r, n))
		for _, size := range []int{1, 2, 3, 7, 55, 63, 64, 65, 128} {
			var pieces []string
			for rest := text; rest != ""; rest = rest[len(pieces[len(pieces)-1]):] {
				pieces = append(pieces, rest[:min(size, len(rest))])
			}
			added(t, pieces...)
		}
	}
	for range 500 {
		var pieces []string
		for range below(r, 9) {
			pieces = append(pieces, string(message(r, below(r, 130))))
		}
		added(t, pieces...)
	}
}

// lists returns all lists of at most n of the parts.
func lists(n int, parts []string) [][]string {
	all := [][]string{nil}
	for begin := 0; n > 0; n-- {
		end := len(all)
		for _, l := range all[begin:end] {
			for _, p := range parts {
				all = append(all, append(slices.Clone(l), p))
			}
		}
		begin = end
	}
	return all
}

func TestP29Inputs(t *testing.T) {
	seen := map[api.Digest][]string{}
	parts := []string{"", "a", "b", "ab", "ba", "aab", "\x00", "\x02a", "\x02a\x02b", strings.Repeat("a", 63), strings.Repeat("a", 64)}
	for _, l := range lists(4, parts) {
		d := hash.Of(47, l...)
		if other, ok := seen[d]; ok {
			t.Fatalf("P2.9: %q and %q have the same digest", other, l)
		}
		seen[d] = l
	}
	for tag := range 256 {
		if tag == 47 {
			continue
		}
		for _, l := range lists(2, []string{"", "a", "/", "\x00"}) {
			d := hash.Of(tag, l...)
			if other, ok := seen[d]; ok {
				t.Fatalf("P2.9: %q and, with the tag %d, %q have the same digest", other, tag, l)
			}
			seen[d] = l
		}
	}
}

// TestZeroValues: the results are not specified, but no call may panic.
func TestZeroValues(t *testing.T) {
	var c hash.Crc
	var s hash.Stream
	for _, n := range sizes {
		text := strings.Repeat("x", n)
		c, s = c.Add(text), s.Add(text)
		c.Value()
		s.Sum()
	}
}
