package hash

import "alum/api"

// Crc is a message whose check is computed piece by piece.
type Crc struct{ register uint64 }

// BeginCrc returns a Crc whose message is empty.
func BeginCrc() Crc { return Crc{api.MaxWord} }

// Add returns a Crc with a longer message.
func (c Crc) Add(text string) Crc {
	for i := range len(text) {
		c = c.next(text[i])
	}
	return c
}

// Value returns the check of the message.
func (c Crc) Value() int { return int(c.register ^ api.MaxWord) }

// next returns a Crc whose message is longer by one byte.
func (c Crc) next(b byte) Crc {
	return Crc{shift(c.register^uint64(b)<<(api.WordBits-8), 8)}
}

// Crc40 returns the check of b.
func Crc40(b []byte) int {
	c := BeginCrc()
	for _, x := range b {
		c = c.next(x)
	}
	return c.Value()
}

// Words returns the check of a list of words.
func Words(l []int) int {
	c := BeginCrc()
	for _, n := range l {
		for low := api.WordBits - 8; low >= 0; low -= 8 {
			c = c.next(byte(n >> low))
		}
	}
	return c.Value()
}

// Join returns the check of two consecutive messages.
func Join(a, b, n int) int {
	if n < 0 {
		return 0
	}
	p := uint64(a) & api.MaxWord
	// The power of x that stands for the lowest bit of n: 8*n itself might not fit into an int.
	power := uint64(1 << 8)
	for ; n > 0; n >>= 1 {
		if n&1 == 1 {
			p = times(p, power)
		}
		power = times(power, power)
	}
	return int(p ^ uint64(b)&api.MaxWord)
}

// times returns the product of two polynomials modulo that of the check.
func times(p, q uint64) uint64 {
	var product uint64
	for i := api.WordBits - 1; i >= 0; i-- {
		product = shift(product, 1) ^ p*(q>>i&1)
	}
	return product
}

// shift returns p * x^n modulo the polynomial of the check, for n up to 14.
// The bits that leave at the top then come back so low that they need no second step.
func shift(p uint64, n int) uint64 {
	top := p >> (api.WordBits - n)
	return p<<n&api.MaxWord ^ top<<26 ^ top<<23 ^ top<<17 ^ top<<3 ^ top
}
