package wire_test

import (
	"bytes"
	"cmp"
	"math"
	"math/big"
	"runtime"
	"slices"
	"strings"
	"testing"

	"alum/api"
	"alum/wire"
)

// kind is one of the five kinds of values that wire encodes, with its functions.
type kind[T any] struct {
	name string
	put  func(T) []byte
	get  func([]byte) (T, int, api.Errno)
	same func(T, T) bool
}

func equal[T comparable](x, y T) bool { return x == y }

var (
	ints       = kind[int]{"Int", wire.Int, wire.GetInt, equal[int]}
	texts      = kind[string]{"Bytes", wire.Bytes, wire.GetBytes, equal[string]}
	intLists   = kind[[]int]{"Ints", wire.Ints, wire.GetInts, slices.Equal[[]int]}
	textLists  = kind[[]string]{"Strings", wire.Strings, wire.GetStrings, slices.Equal[[]string]}
	digestList = kind[[]api.Digest]{"Digests", wire.Digests, wire.GetDigests, slices.Equal[[]api.Digest]}
)

// cat joins bytes, of which n times the byte c.
func cat(n int, c byte, more ...byte) []byte { return append(bytes.Repeat([]byte{c}, n), more...) }

// expect checks what get answers for b: with an error, a zero value and no length.
func (k kind[T]) expect(t *testing.T, promise string, b []byte, want T, used int, e api.Errno) {
	t.Helper()
	kept := slices.Clone(b)
	got, n, err := k.get(b)
	if err != e || n != used || !k.same(got, want) {
		t.Errorf("%s: Get%s(%v) is %#v, %d, %d; want %#v, %d, %d", promise, k.name, b, got, n, err, want, used, e)
	}
	if !bytes.Equal(b, kept) {
		t.Errorf("%s: Get%s changes %v to %v", promise, k.name, kept, b)
	}
}

// fails checks that get answers only an error.
func (k kind[T]) fails(t *testing.T, promise string, b []byte, e api.Errno) {
	t.Helper()
	var zero T
	k.expect(t, promise, b, zero, 0, e)
}

// encodes checks what put answers for x.
func (k kind[T]) encodes(t *testing.T, promise string, x T, want []byte) {
	t.Helper()
	if b := k.put(x); !bytes.Equal(b, want) {
		t.Errorf("%s: %s(%#v) is %v; want %v", promise, k.name, x, b, want)
	}
}

// someInts returns integers of all sizes: the powers of two and their neighbours, of both signs.
func someInts() []int {
	l := []int{0, 300, 8191, 8192, math.MaxInt, math.MinInt}
	for i := range 63 {
		p := 1 << i
		l = append(l, p-1, p, p+1, p+p/3, 1-p, -p, -p-1, -p-p/3)
	}
	return l
}

// zigzag is the number z of P1.1, computed without a bound.
func zigzag(n int) *big.Int {
	z := new(big.Int).Lsh(big.NewInt(int64(n)), 1)
	if n < 0 {
		z.Neg(z)
		z.Sub(z, big.NewInt(1))
	}
	return z
}

// digits is the encoding of P1.1, by divisions.
func digits(n int) []byte {
	z, base, digit := zigzag(n), big.NewInt(128), new(big.Int)
	var b []byte
	for {
		z.DivMod(z, base, digit)
		if z.Sign() == 0 {
			return append(b, byte(digit.Int64()))
		}
		b = append(b, byte(digit.Int64())+128)
	}
}

// plainInt is P1.2, sentence by sentence.
func plainInt(b []byte) (int, int, api.Errno) {
	last := slices.IndexFunc(b[:min(len(b), 10)], func(c byte) bool { return c < 128 })
	switch {
	case last < 0 && len(b) >= 10:
		return 0, 0, api.ErrEncoding
	case last < 0:
		return 0, 0, api.ErrTruncated
	case last == 9 && b[last] > 1, last > 0 && b[last] == 0:
		return 0, 0, api.ErrEncoding
	}
	z := new(big.Int)
	for i := last; i >= 0; i-- {
		z.Lsh(z, 7).Add(z, big.NewInt(int64(b[i]%128)))
	}
	if z.Bit(0) == 1 {
		z.Neg(z.Add(z, big.NewInt(1)))
	}
	return int(z.Rsh(z, 1).Int64()), last + 1, api.OK
}

// plainBytes is the second half of P1.3, sentence by sentence.
func plainBytes(b []byte) (string, int, api.Errno) {
	n, used, e := plainInt(b)
	switch {
	case e != api.OK:
		return "", 0, e
	case n < 0:
		return "", 0, api.ErrEncoding
	case len(b)-used < n:
		return "", 0, api.ErrTruncated
	}
	return string(b[used:][:n]), used + n, api.OK
}

// plainList is P1.5, sentence by sentence.
func plainList[T any](b []byte, size int64, get func([]byte) (T, int, api.Errno)) ([]T, int, api.Errno) {
	n, used, e := plainInt(b)
	if e != api.OK {
		return nil, 0, e
	}
	if n < 0 {
		return nil, 0, api.ErrEncoding
	}
	need := new(big.Int).Mul(big.NewInt(int64(n)), big.NewInt(size))
	if need.Cmp(big.NewInt(int64(len(b)-used))) > 0 {
		return nil, 0, api.ErrTruncated
	}
	var l []T
	for len(l) < n {
		x, k, e := get(b[used:])
		if e != api.OK {
			return nil, 0, e
		}
		l, used = append(l, x), used+k
	}
	return l, used, api.OK
}

func plainInts(b []byte) ([]int, int, api.Errno)       { return plainList(b, 1, plainInt) }
func plainStrings(b []byte) ([]string, int, api.Errno) { return plainList(b, 1, plainBytes) }
func plainDigests(b []byte) ([]api.Digest, int, api.Errno) {
	return plainList(b, 16, func(b []byte) (api.Digest, int, api.Errno) { return api.Digest(b), 16, api.OK })
}

// everyTail calls f with all sequences of at most n bytes that matter to decoders.
func everyTail(n int, f func([]byte)) {
	var grow func([]byte)
	grow = func(b []byte) {
		f(slices.Clone(b))
		if len(b) == n {
			return
		}
		for _, c := range []byte{0, 1, 2, 3, 4, 6, 127, 128, 129, 255} {
			grow(append(b, c))
		}
	}
	grow(nil)
}

// everyInput calls f with short sequences, with ones around the greatest length of an integer, and with long ones.
func everyInput(f func([]byte)) {
	everyTail(5, f)
	for _, head := range [][]byte{cat(7, 255), cat(7, 128), cat(8, 255), cat(8, 128)} {
		everyTail(4, func(b []byte) { f(append(slices.Clone(head), b...)) })
	}
	for _, head := range [][]byte{nil, {2}, {4}, {6}} {
		for n := range 50 {
			f(append(slices.Clone(head), bytes.Repeat([]byte{7}, n)...))
		}
	}
	for n := 9; n <= 11; n++ {
		for c := range 256 {
			f(cat(n-1, 255, byte(c)))
			f(cat(n-1, 128, byte(c), 5))
		}
	}
}

func TestP11Int(t *testing.T) {
	for _, x := range []struct {
		n    int
		want []byte
	}{
		{0, []byte{0}}, {1, []byte{2}}, {-1, []byte{1}},
		{62, []byte{124}}, {63, []byte{126}}, {64, []byte{128, 1}}, {65, []byte{130, 1}},
		{-63, []byte{125}}, {-64, []byte{127}}, {-65, []byte{129, 1}}, {-66, []byte{131, 1}},
		{8191, []byte{254, 127}}, {8192, []byte{128, 128, 1}},
		{-8192, []byte{255, 127}}, {-8193, []byte{129, 128, 1}},
		{math.MaxInt, cat(1, 254, cat(8, 255, 1)...)}, {math.MaxInt - 1, cat(1, 252, cat(8, 255, 1)...)},
		{math.MinInt, cat(9, 255, 1)}, {math.MinInt + 1, cat(1, 253, cat(8, 255, 1)...)},
	} {
		ints.encodes(t, "P1.1", x.n, x.want)
	}
	for _, n := range someInts() {
		ints.encodes(t, "P1.1", n, digits(n))
	}
	for n := -20000; n <= 20000; n++ {
		ints.encodes(t, "P1.1", n, digits(n))
	}
}

func TestP12GetInt(t *testing.T) {
	for _, x := range []struct {
		b    []byte
		n    int
		used int
	}{
		{[]byte{0}, 0, 1}, {[]byte{0, 0}, 0, 1}, {[]byte{1}, -1, 1}, {[]byte{2, 128}, 1, 1},
		{[]byte{126}, 63, 1}, {[]byte{127, 255}, -64, 1}, {[]byte{128, 1}, 64, 2}, {[]byte{129, 1, 9}, -65, 2},
		{[]byte{128, 128, 1}, 8192, 3}, {cat(8, 255, 127), -1 << 62, 9}, {cat(8, 128, 1), 1 << 55, 9},
		{cat(1, 254, cat(8, 255, 1)...), math.MaxInt, 10}, {cat(9, 255, 1), math.MinInt, 10},
		{cat(9, 128, 1), 1 << 62, 10}, {cat(9, 255, 1, 255), math.MinInt, 10},
	} {
		ints.expect(t, "P1.2", x.b, x.n, x.used, api.OK)
	}
	for _, b := range [][]byte{nil, {}, {128}, {255}, {128, 128}, cat(8, 255), cat(9, 255), cat(9, 128)} {
		ints.fails(t, "P1.2", b, api.ErrTruncated)
	}
	for _, b := range [][]byte{
		cat(10, 255), cat(10, 128), cat(11, 255), cat(10, 255, 0), cat(10, 255, 1), cat(10, 128, 1),
		cat(9, 255, 2), cat(9, 128, 127), cat(9, 255, 0), cat(9, 128, 0), cat(9, 255, 2, 1),
		{128, 0}, {129, 0}, {255, 0, 1}, {255, 128, 0}, cat(8, 128, 0),
	} {
		ints.fails(t, "P1.2", b, api.ErrEncoding)
	}
}

func TestP13Bytes(t *testing.T) {
	long := strings.Repeat("x", 64)
	for _, x := range []struct {
		s    string
		want []byte
	}{
		{"", []byte{0}}, {"ab", []byte{4, 97, 98}}, {"\x00\xff", []byte{4, 0, 255}}, {"é", []byte{4, 195, 169}},
		{long[1:], append([]byte{126}, long[1:]...)}, {long, append([]byte{128, 1}, long...)},
	} {
		texts.encodes(t, "P1.3", x.s, x.want)
		texts.expect(t, "P1.3", append(x.want, 1, 2), x.s, len(x.want), api.OK)
	}
	for _, x := range []struct {
		b []byte
		e api.Errno
	}{
		{nil, api.ErrTruncated}, {[]byte{128}, api.ErrTruncated}, {[]byte{2}, api.ErrTruncated},
		{[]byte{4, 97}, api.ErrTruncated}, {cat(1, 254, cat(8, 255, 1, 97)...), api.ErrTruncated},
		{[]byte{128, 0}, api.ErrEncoding}, {cat(10, 255), api.ErrEncoding}, {cat(9, 255, 2), api.ErrEncoding},
		{[]byte{1}, api.ErrEncoding}, {[]byte{1, 97}, api.ErrEncoding}, {[]byte{3, 97, 98}, api.ErrEncoding},
		{cat(9, 255, 1, 97), api.ErrEncoding},
	} {
		texts.fails(t, "P1.3", x.b, x.e)
	}
}

func TestP14Lists(t *testing.T) {
	intLists.encodes(t, "P1.4", nil, []byte{0})
	intLists.encodes(t, "P1.4", []int{}, []byte{0})
	intLists.encodes(t, "P1.4", []int{1, -1}, []byte{4, 2, 1})
	intLists.encodes(t, "P1.4", []int{64, 0, -65}, []byte{6, 128, 1, 0, 129, 1})
	intLists.encodes(t, "P1.4", make([]int, 64), cat(1, 128, append([]byte{1}, make([]byte, 64)...)...))
	textLists.encodes(t, "P1.4", nil, []byte{0})
	textLists.encodes(t, "P1.4", []string{"", "a"}, []byte{4, 0, 2, 97})
	textLists.encodes(t, "P1.4", []string{"bc", "", "\x80"}, []byte{6, 4, 98, 99, 0, 2, 128})
	d, f := api.Digest{1, 2, 3}, api.Digest{15: 255}
	digestList.encodes(t, "P1.4", nil, []byte{0})
	digestList.encodes(t, "P1.4", []api.Digest{d}, append([]byte{2}, d[:]...))
	digestList.encodes(t, "P1.4", []api.Digest{f, d}, slices.Concat([]byte{4}, f[:], d[:]))
}

func TestP15Lists(t *testing.T) {
	intLists.expect(t, "P1.5", []byte{0, 9}, nil, 1, api.OK)
	intLists.expect(t, "P1.5", []byte{4, 2, 1, 9}, []int{1, -1}, 3, api.OK)
	intLists.expect(t, "P1.5", []byte{4, 128, 1, 129, 1}, []int{64, -65}, 5, api.OK)
	textLists.expect(t, "P1.5", []byte{0}, nil, 1, api.OK)
	textLists.expect(t, "P1.5", []byte{4, 0, 2, 97, 9}, []string{"", "a"}, 4, api.OK)
	d, f := api.Digest{1, 2, 3}, api.Digest{15: 255}
	digestList.expect(t, "P1.5", []byte{0, 9}, nil, 1, api.OK)
	digestList.expect(t, "P1.5", slices.Concat([]byte{4}, d[:], f[:], []byte{9}), []api.Digest{d, f}, 33, api.OK)
	for _, x := range []struct {
		b                    []byte
		ints, texts, digests api.Errno
	}{
		{nil, api.ErrTruncated, api.ErrTruncated, api.ErrTruncated},
		{[]byte{255}, api.ErrTruncated, api.ErrTruncated, api.ErrTruncated},
		{[]byte{2}, api.ErrTruncated, api.ErrTruncated, api.ErrTruncated},
		{[]byte{128, 0, 2}, api.ErrEncoding, api.ErrEncoding, api.ErrEncoding},
		{[]byte{1}, api.ErrEncoding, api.ErrEncoding, api.ErrEncoding},
		{[]byte{3, 2, 2, 2}, api.ErrEncoding, api.ErrEncoding, api.ErrEncoding},
		{cat(9, 255, 1), api.ErrEncoding, api.ErrEncoding, api.ErrEncoding},
		{cat(1, 254, cat(8, 255, 1)...), api.ErrTruncated, api.ErrTruncated, api.ErrTruncated},
		// The bytes that follow are counted before an element is decoded.
		{[]byte{6, 128, 0}, api.ErrTruncated, api.ErrTruncated, api.ErrTruncated},
		{[]byte{4, 128, 0}, api.ErrEncoding, api.ErrEncoding, api.ErrTruncated},
		{[]byte{4, 2, 128}, api.ErrTruncated, api.ErrTruncated, api.ErrTruncated},
		// The first element that cannot be decoded decides.
		{[]byte{6, 0, 128, 0}, api.ErrEncoding, api.ErrEncoding, api.ErrTruncated},
		{cat(1, 4, cat(10, 255, 128)...), api.ErrEncoding, api.ErrEncoding, api.ErrTruncated},
	} {
		intLists.fails(t, "P1.5", x.b, x.ints)
		textLists.fails(t, "P1.5", x.b, x.texts)
		digestList.fails(t, "P1.5", x.b, x.digests)
	}
	textLists.fails(t, "P1.5", []byte{4, 1, 8}, api.ErrEncoding)
	textLists.fails(t, "P1.5", []byte{4, 0, 4, 97}, api.ErrTruncated)
	textLists.fails(t, "P1.5", []byte{4, 8, 1}, api.ErrTruncated)
	digestList.fails(t, "P1.5", cat(1, 2, cat(15, 7)...), api.ErrTruncated)
	digestList.fails(t, "P1.5", cat(1, 4, cat(31, 7)...), api.ErrTruncated)
	for _, n := range []int{1 << 59, 1 << 60, 1 << 62, 1<<60 + 1} { // 16 times as many are beyond 64 bits
		digestList.fails(t, "P1.5", append(wire.Int(n), cat(40, 7)...), api.ErrTruncated)
	}
}

// follows checks that get answers for b what plain does.
func (k kind[T]) follows(t *testing.T, promise string, b []byte, plain func([]byte) (T, int, api.Errno)) {
	t.Helper()
	want, used, e := plain(b)
	k.expect(t, promise, b, want, used, e)
}

func TestP12P13P15AllInputs(t *testing.T) {
	everyInput(func(b []byte) {
		if t.Failed() { // one report is enough
			return
		}
		ints.follows(t, "P1.2", b, plainInt)
		texts.follows(t, "P1.3", b, plainBytes)
		intLists.follows(t, "P1.5", b, plainInts)
		textLists.follows(t, "P1.5", b, plainStrings)
		digestList.follows(t, "P1.5", b, plainDigests)
	})
}

// allocated returns how many bytes a call allocates.
func allocated(f func()) uint64 {
	var before, after runtime.MemStats
	runtime.ReadMemStats(&before)
	f()
	runtime.ReadMemStats(&after)
	return after.TotalAlloc - before.TotalAlloc
}

// frugal checks that get allocates no more than a small multiple of the length of its argument.
func (k kind[T]) frugal(t *testing.T, b []byte) {
	t.Helper()
	limit := uint64(40*len(b) + 10000)
	if n := allocated(func() { k.get(b) }); n > limit {
		t.Errorf("P1.5: Get%s of %d bytes allocates %d", k.name, len(b), n)
	}
}

func TestP15Memory(t *testing.T) {
	const size = 1 << 16
	for _, n := range []int{0, size / 16, size / 16 * 2, size, size + 1, 1 << 32, 1 << 59, math.MaxInt, -1} {
		for _, c := range []byte{0, 1, 2, 128} {
			b := append(wire.Int(n), cat(size, c)...)
			ints.frugal(t, b)
			texts.frugal(t, b)
			intLists.frugal(t, b)
			textLists.frugal(t, b)
			digestList.frugal(t, b)
		}
	}
}

// fresh checks that neither the encoded nor the decoded value changes when the bytes of the encoding do.
func (k kind[T]) fresh(t *testing.T, x T) {
	t.Helper()
	first := k.put(x)
	kept := slices.Clone(first)
	y, _, _ := k.get(first)
	clear(first)
	if second := k.put(x); !bytes.Equal(second, kept) {
		t.Errorf("%s: the encoding of %#v is not new memory", k.name, x)
	}
	if !k.same(x, y) {
		t.Errorf("Get%s: %#v is not new memory: %#v", k.name, x, y)
	}
}

func TestResultsAreNewMemory(t *testing.T) {
	ints.fresh(t, 77)
	texts.fresh(t, "abc")
	intLists.fresh(t, []int{1, 64, -3})
	textLists.fresh(t, []string{"a", "", "bc"})
	digestList.fresh(t, []api.Digest{{1}, {15: 2}})
	l := []int{3, 1, 2}
	if wire.Ints(l); !slices.Equal(l, []int{3, 1, 2}) {
		t.Error("Ints changes its argument:", l)
	}
}

// returns checks that x is decoded from its encoding, whatever follows, and from no proper prefix of it.
func (k kind[T]) returns(t *testing.T, x T) {
	t.Helper()
	b := k.put(x)
	for _, more := range [][]byte{nil, {0}, {1}, {127}, {128}, {255}, cat(20, 0), cat(20, 128), cat(20, 255)} {
		k.expect(t, "P1.6", slices.Concat(b, more), x, len(b), api.OK)
	}
	for n := range b {
		k.fails(t, "P1.6", b[:n], api.ErrTruncated)
	}
}

// canonical checks that the bytes which get consumes are the encoding of what it answers.
func (k kind[T]) canonical(t *testing.T, b []byte) {
	t.Helper()
	x, n, e := k.get(b)
	if e == api.OK && !bytes.Equal(k.put(x), b[:n]) {
		t.Errorf("P1.6: Get%s(%v) consumes %v, but %s(%#v) is %v", k.name, b, b[:n], k.name, x, k.put(x))
	}
}

func TestP16Returns(t *testing.T) {
	for _, n := range someInts() {
		ints.returns(t, n)
	}
	intLists.returns(t, nil)
	intLists.returns(t, someInts())
	var list []string
	for _, n := range []int{0, 1, 2, 63, 64, 65, 300} {
		s := strings.Repeat("\x80\x00\xff", n)[:n]
		texts.returns(t, s)
		textLists.returns(t, list)
		list = append(list, s)
	}
	textLists.returns(t, []string{"", "", ""})
	var digests []api.Digest
	for i := range 70 {
		digestList.returns(t, digests)
		digests = append(digests, api.Digest{byte(i), 128, 15: byte(255 - i)})
	}
}

func TestP16Canonical(t *testing.T) {
	everyInput(func(b []byte) {
		if t.Failed() {
			return
		}
		ints.canonical(t, b)
		texts.canonical(t, b)
		intLists.canonical(t, b)
		textLists.canonical(t, b)
		digestList.canonical(t, b)
	})
}

func TestP17Lengths(t *testing.T) {
	for n := -64; n <= 63; n++ {
		if len(wire.Int(n)) != 1 {
			t.Error("P1.7: more than one byte for", n)
		}
	}
	for k := 1; k <= 9; k++ { // 7*k binary digits are one more than k bytes can hold together with the sign
		p := 1 << (7*k - 1)
		for _, x := range []struct{ n, want int }{{p - 1, k}, {-p, k}, {p, k + 1}, {-p - 1, k + 1}} {
			if got := len(wire.Int(x.n)); got != x.want {
				t.Error("P1.7: the length of", x.n, "is", got, "and not", x.want)
			}
		}
	}
	l := someInts()
	for _, n := range l {
		b := wire.Int(n)
		if len(b) < 1 || len(b) > 10 || len(b) != len(wire.Int(-1-n)) {
			t.Error("P1.7: the length of", n, "is", len(b), "and that of", -1-n, "is", len(wire.Int(-1-n)))
		}
	}
	// max(n, -1-n) is the distance from -1/2, less a half.
	slices.SortFunc(l, func(x, y int) int { return cmp.Compare(max(x, -1-x), max(y, -1-y)) })
	for i, n := range l[1:] {
		if len(wire.Int(l[i])) > len(wire.Int(n)) {
			t.Error("P1.7:", l[i], "is longer than", n)
		}
	}
}
