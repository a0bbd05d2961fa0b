package hash

import "math/bits"

const (
	blockSize = 64
	// lengthAt is where, in the last block, the length of the message begins.
	lengthAt = blockSize - 8
)

// rounds are the round constants of SHA-256.
var rounds = [64]uint32{
	0x428a2f98, 0x71374491, 0xb5c0fbcf, 0xe9b5dba5, 0x3956c25b, 0x59f111f1, 0x923f82a4, 0xab1c5ed5,
	0xd807aa98, 0x12835b01, 0x243185be, 0x550c7dc3, 0x72be5d74, 0x80deb1fe, 0x9bdc06a7, 0xc19bf174,
	0xe49b69c1, 0xefbe4786, 0x0fc19dc6, 0x240ca1cc, 0x2de92c6f, 0x4a7484aa, 0x5cb0a9dc, 0x76f988da,
	0x983e5152, 0xa831c66d, 0xb00327c8, 0xbf597fc7, 0xc6e00bf3, 0xd5a79147, 0x06ca6351, 0x14292967,
	0x27b70a85, 0x2e1b2138, 0x4d2c6dfc, 0x53380d13, 0x650a7354, 0x766a0abb, 0x81c2c92e, 0x92722c85,
	0xa2bfe8a1, 0xa81a664b, 0xc24b8b70, 0xc76c51a3, 0xd192e819, 0xd6990624, 0xf40e3585, 0x106aa070,
	0x19a4c116, 0x1e376c08, 0x2748774c, 0x34b0bcb5, 0x391c0cb3, 0x4ed8aa4a, 0x5b9cca4f, 0x682e6ff3,
	0x748f82ee, 0x78a5636f, 0x84c87814, 0x8cc70208, 0x90befffa, 0xa4506ceb, 0xbef9a3f7, 0xc67178f2,
}

// Stream is a message that is hashed piece by piece.
type Stream struct {
	value  [8]uint32
	block  [blockSize]byte // the bytes after the last whole block, followed by zeros
	length uint64
}

// Begin returns a stream whose message is empty.
func Begin() Stream {
	return Stream{value: [8]uint32{
		0x6a09e667, 0xbb67ae85, 0x3c6ef372, 0xa54ff53a, 0x510e527f, 0x9b05688c, 0x1f83d9ab, 0x5be0cd19,
	}}
}

// Add returns a stream with a longer message.
func (s Stream) Add(text string) Stream {
	for len(text) > 0 {
		n := copy(s.block[s.length%blockSize:], text)
		text = text[n:]
		s.length += uint64(n)
		if s.length%blockSize == 0 {
			s = s.compressed()
		}
	}
	return s
}

// Sum returns the hash of the message.
func (s Stream) Sum() [32]byte {
	at := s.length % blockSize
	s.block[at] = 128
	if at >= lengthAt {
		s = s.compressed()
	}
	for i := range 8 {
		s.block[lengthAt+i] = byte(s.length * 8 >> (56 - 8*i))
	}
	s = s.compressed()
	var sum [32]byte
	for i := range sum {
		sum[i] = byte(s.value[i/4] >> (24 - 8*(i%4)))
	}
	return sum
}

// compressed returns s with its block worked into its value, and an empty block.
func (s Stream) compressed() Stream {
	s.value = compress(s.value, s.block)
	s.block = [blockSize]byte{}
	return s
}

// Sum returns the SHA-256 hash of b.
func Sum(b []byte) [32]byte { return Begin().Add(string(b)).Sum() }

// compress returns the hash value to which a block changes value.
func compress(value [8]uint32, block [blockSize]byte) [8]uint32 {
	w := schedule(block)
	a, b, c, d := value[0], value[1], value[2], value[3]
	e, f, g, h := value[4], value[5], value[6], value[7]
	for t := range w {
		x := h + (rotr(e, 6) ^ rotr(e, 11) ^ rotr(e, 25)) + (e&f ^ ^e&g) + rounds[t] + w[t]
		y := (rotr(a, 2) ^ rotr(a, 13) ^ rotr(a, 22)) + (a&b ^ a&c ^ b&c)
		h, g, f, e = g, f, e, d+x
		d, c, b, a = c, b, a, x+y
	}
	for i, n := range [8]uint32{a, b, c, d, e, f, g, h} {
		value[i] += n
	}
	return value
}

// schedule returns the words that a block adds to the rounds.
func schedule(block [blockSize]byte) [64]uint32 {
	var w [64]uint32
	for i, x := range block {
		w[i/4] = w[i/4]<<8 | uint32(x)
	}
	for t := 16; t < len(w); t++ {
		s0 := rotr(w[t-15], 7) ^ rotr(w[t-15], 18) ^ w[t-15]>>3
		s1 := rotr(w[t-2], 17) ^ rotr(w[t-2], 19) ^ w[t-2]>>10
		w[t] = w[t-16] + s0 + w[t-7] + s1
	}
	return w
}

// rotr returns x rotated right by n bits.
func rotr(x uint32, n int) uint32 { return bits.RotateLeft32(x, -n) }
