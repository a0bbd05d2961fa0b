// Package wire encodes integers, byte strings and lists canonically (layer 1, shared/doc/01-wire.md).
package wire

import "alum/api"

// maxInt is the greatest number of bytes of the encoding of an integer.
const maxInt = 10

// Int returns the encoding of an integer.
func Int(n int) []byte { return addInt(nil, n) }

// GetInt decodes an integer at the beginning of a byte sequence.
func GetInt(b []byte) (int, int, api.Errno) {
	var z uint64
	used := 0
collect:
	for i, c := range b {
		z |= uint64(c&127) << (7 * i)
		switch {
		case i == maxInt-1 && c > 1, i > 0 && c == 0:
			// More than 64 bits, or a last digit that a shorter encoding leaves out.
			return 0, 0, api.ErrEncoding
		case c < 128:
			used = i + 1
			break collect
		}
	}
	if used == 0 {
		return 0, 0, api.ErrTruncated
	}
	return int(z>>1) ^ -int(z&1), used, api.OK
}

// Bytes returns the encoding of a byte string.
func Bytes(s string) []byte { return addBytes(nil, s) }

// GetBytes decodes a byte string at the beginning of a byte sequence.
func GetBytes(b []byte) (string, int, api.Errno) {
	n, used, e := getLen(b, 1)
	if e != api.OK {
		return "", 0, e
	}
	return string(b[used : used+n]), used + n, api.OK
}

// Ints returns the encoding of a list of integers.
func Ints(l []int) []byte { return addList(l, addInt) }

// GetInts decodes a list of integers at the beginning of a byte sequence.
func GetInts(b []byte) ([]int, int, api.Errno) { return getList(b, 1, GetInt) }

// Strings returns the encoding of a list of byte strings.
func Strings(l []string) []byte { return addList(l, addBytes) }

// GetStrings decodes a list of byte strings at the beginning of a byte sequence.
func GetStrings(b []byte) ([]string, int, api.Errno) { return getList(b, 1, GetBytes) }

// Digests returns the encoding of a list of digests.
func Digests(l []api.Digest) []byte { return addList(l, addDigest) }

// GetDigests decodes a list of digests at the beginning of a byte sequence.
func GetDigests(b []byte) ([]api.Digest, int, api.Errno) {
	return getList(b, api.DigestSize, getDigest)
}

// addInt appends the encoding of n to b.
func addInt(b []byte, n int) []byte {
	// The sign becomes the lowest bit, so that integers near zero are short whatever their sign.
	z := uint64(n)<<1 ^ uint64(n>>63)
	for ; z >= 128; z >>= 7 {
		b = append(b, byte(z)|128)
	}
	return append(b, byte(z))
}

// addBytes appends the encoding of s to b.
func addBytes(b []byte, s string) []byte { return append(addInt(b, len(s)), s...) }

// addDigest appends the bytes of d to b.
func addDigest(b []byte, d api.Digest) []byte { return append(b, d[:]...) }

// addList returns the number of elements of l, followed by what add appends for each.
func addList[T any](l []T, add func([]byte, T) []byte) []byte {
	b := Int(len(l))
	for _, x := range l {
		b = add(b, x)
	}
	return b
}

// getLen decodes a length, after which at least size bytes for each of its units must follow.
func getLen(b []byte, size int) (int, int, api.Errno) {
	n, used, e := GetInt(b)
	switch {
	case e != api.OK:
		return 0, 0, e
	case n < 0:
		return 0, 0, api.ErrEncoding
	case n > (len(b)-used)/size: // n*size might not fit into an int
		return 0, 0, api.ErrTruncated
	}
	return n, used, api.OK
}

// getDigest decodes a digest at the beginning of at least 16 bytes: getLen has made sure of them.
func getDigest(b []byte) (api.Digest, int, api.Errno) {
	var d api.Digest
	copy(d[:], b)
	return d, api.DigestSize, api.OK
}

// getList decodes a list whose elements take at least size bytes each; get decodes one of them.
func getList[T any](b []byte, size int, get func([]byte) (T, int, api.Errno)) ([]T, int, api.Errno) {
	n, used, e := getLen(b, size)
	if e != api.OK {
		return nil, 0, e
	}
	l := make([]T, 0, n)
	for range n {
		x, k, e := get(b[used:])
		if e != api.OK {
			return nil, 0, e
		}
		l = append(l, x)
		used += k
	}
	return l, used, api.OK
}
