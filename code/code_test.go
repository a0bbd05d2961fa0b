package code_test

import (
	"math"
	"math/rand/v2"
	"testing"

	"alum/api"
	"alum/code"
)

// coded is a line with a code.
type coded struct {
	line [8]int
	code int
}

// result is what Check returns.
type result struct{ state, word, bit int }

var (
	clean  = result{api.LineClean, 0, 0}
	rotten = result{api.LineRotten, 0, 0}
)

// chance returns a source of numbers that are the same in every run.
func chance(seed byte) *rand.ChaCha8 { return rand.NewChaCha8([32]byte{seed}) }

// below returns an integer from 0 to n-1.
func below(r *rand.ChaCha8, n int) int { return int(r.Uint64() % uint64(n)) }

// word returns a line of zeros but for the word k.
func word(k, n int) [8]int {
	var w [8]int
	w[k] = n
	return w
}

// full returns the line whose words are all n.
func full(n int) [8]int { return [8]int{n, n, n, n, n, n, n, n} }

// lines returns lines of several kinds: chosen ones, sparse ones, and many with any words.
func lines(r *rand.ChaCha8, n int) [][8]int {
	all := [][8]int{{}, full(api.MaxWord), full(1), full(1 << 39), {1, 2, 3, api.MaxWord, 5, 6, 7, 1 << 20}, word(0, 1), word(7, 1<<39)}
	for range n {
		var any, sparse [8]int
		for k := range any {
			any[k] = below(r, 1<<40)
			sparse[k] = any[k] & below(r, 1<<40) & below(r, 1<<40)
		}
		all = append(all, any, sparse)
	}
	return all
}

// plainPositions are the positions of all bits that have one, by word and bit.
func plainPositions() map[[2]int]int {
	powers := map[int]bool{}
	positions := map[[2]int]int{}
	for j := range 9 {
		positions[[2]int{8, j}] = int(math.Pow(2, float64(j)))
		powers[positions[[2]int{8, j}]] = true
	}
	next := 3
	for k := range 8 {
		for b := range 40 {
			for powers[next] {
				next++
			}
			positions[[2]int{k, b}] = next
			next++
		}
	}
	return positions
}

// places are all bits of a line and its code, by word and bit.
func places() [][2]int {
	var all [][2]int
	for k := range 9 {
		for b := range 40 {
			if k < 8 || b < 10 {
				all = append(all, [2]int{k, b})
			}
		}
	}
	return all
}

// isOne tells whether a bit of a line and its code is 1, by divisions.
func (c coded) isOne(at [2]int) bool {
	n := c.code
	if at[0] < 8 {
		n = c.line[at[0]]
	}
	for range at[1] {
		n /= 2
	}
	return n%2 == 1
}

// inverted returns a line and its code with one bit inverted, by addition.
func (c coded) inverted(at [2]int) coded {
	change := 1
	for range at[1] {
		change *= 2
	}
	if c.isOne(at) {
		change = -change
	}
	if at[0] < 8 {
		c.line[at[0]] += change
	} else {
		c.code += change
	}
	return c
}

// reader computes what the chapter's terms say.
type reader struct {
	positions map[[2]int]int
	places    [][2]int
	byPlace   map[int][2]int
}

func newReader() reader {
	r := reader{plainPositions(), places(), map[int][2]int{}}
	for at, p := range r.positions {
		r.byPlace[p] = at
	}
	return r
}

// sums returns the syndrome and the parity.
func (r reader) sums(c coded) (syndrome, parity int) {
	for _, at := range r.places {
		if c.isOne(at) {
			syndrome ^= r.positions[at]
			parity = 1 - parity
		}
	}
	return syndrome, parity
}

// check is what P3.3 says of a valid line and a valid code.
func (r reader) check(c coded) result {
	syndrome, parity := r.sums(c)
	if syndrome == 0 && parity == 0 {
		return clean
	}
	if parity == 1 && syndrome == 0 {
		return result{api.LineOne, 8, 9}
	}
	if at, ok := r.byPlace[syndrome]; ok && parity == 1 {
		return result{api.LineOne, at[0], at[1]}
	}
	return rotten
}

// check is what the package says.
func check(c coded) result {
	state, word, bit := code.Check(c.line, c.code)
	return result{state, word, bit}
}

// fix is the package's correction.
func fix(c coded) (coded, api.Errno) {
	w, n, e := code.Fix(c.line, c.code)
	return coded{w, n}, e
}

// flip inverts a bit by the package.
func flip(c coded, at [2]int) coded {
	w, n := code.Flip(c.line, c.code, at[0], at[1])
	return coded{w, n}
}

// distance is the package's.
func distance(a, b coded) int { return code.Distance(a.line, a.code, b.line, b.code) }

// withCode returns a line with its code.
func withCode(w [8]int) coded { return coded{w, code.Encode(w)} }

// wrong are lines and codes that are not valid.
func wrong() []coded {
	all := []coded{{[8]int{}, -1}, {[8]int{}, 1024}, {full(api.MaxWord), 1024}, {[8]int{}, math.MaxInt}, {[8]int{}, math.MinInt}, {[8]int{}, 1 << 32}}
	for k := range 8 {
		for _, n := range []int{-1, api.MaxWord + 1, api.MaxWord + 2, 1 << 41, 1 << 62, math.MaxInt, math.MinInt, -api.MaxWord, -api.MaxWord - 1} {
			all = append(all, coded{word(k, n), 0}, coded{word(k, n), 1023}, coded{word(k, n), -1})
		}
	}
	return all
}

func TestP31Position(t *testing.T) {
	for _, x := range [][3]int{{0, 0, 3}, {0, 1, 5}, {0, 3, 7}, {0, 4, 9}, {0, 10, 15}, {0, 11, 17}, {0, 25, 31}, {0, 26, 33}, {1, 16, 63}, {1, 17, 65}, {2, 39, 127}, {3, 0, 129}, {6, 6, 255}, {6, 7, 257}, {7, 39, 329}, {8, 0, 1}, {8, 3, 8}, {8, 8, 256}, {8, 9, 0}} {
		if n := code.Position(x[0], x[1]); n != x[2] {
			t.Errorf("P3.1: Position(%d, %d) is %d, not %d", x[0], x[1], n, x[2])
		}
	}
	// The map answers 0 where there is no bit, and for the bit 9 of the word 8.
	positions := plainPositions()
	if len(positions) != 329 {
		t.Fatalf("P3.1: %d positions", len(positions))
	}
	for k := -9; k < 20; k++ {
		for b := -41; b < 100; b++ {
			if n := code.Position(k, b); n != positions[[2]int{k, b}] {
				t.Errorf("P3.1: Position(%d, %d) is %d, not %d", k, b, n, positions[[2]int{k, b}])
			}
		}
	}
	far := []int{math.MinInt, math.MinInt + 1, -1 << 32, 1 << 32, 1<<32 + 8, math.MaxInt - 1, math.MaxInt}
	for _, n := range far {
		for _, small := range []int{-1, 0, 3, 8} {
			if a, b := code.Position(n, small), code.Position(small, n); a != 0 || b != 0 {
				t.Errorf("P3.1: Position with %d and %d: %d, %d", n, small, a, b)
			}
		}
	}
}

func TestP32Encode(t *testing.T) {
	for _, x := range []struct {
		line [8]int
		code int
	}{{[8]int{}, 0}, {word(0, 1), 515}, {word(0, 2), 517}, {word(0, 3), 6}, {word(0, 8), 7}, {word(7, 1<<39), 841}} {
		if n := code.Encode(x.line); n != x.code {
			t.Errorf("P3.2: the code of %v is %d, not %d", x.line, n, x.code)
		}
	}
	r := newReader()
	all := lines(chance(32), 200)
	for _, at := range r.places[:320] {
		all = append(all, coded{}.inverted(at).line)
	}
	for _, w := range all {
		n := code.Encode(w)
		if s, p := r.sums(coded{w, n}); n < 0 || n > 1023 || s != 0 || p != 0 {
			t.Fatalf("P3.2: the code of %v is %d, with the syndrome %d and the parity %d", w, n, s, p)
		}
	}
}

func TestP32EncodeWrongWords(t *testing.T) {
	for k := range 8 {
		for _, n := range []int{-1, api.MaxWord + 1, math.MaxInt, math.MinInt} {
			for _, w := range [][8]int{{}, full(api.MaxWord), full(n)} {
				w[k] = n
				if c := code.Encode(w); c != -1 {
					t.Errorf("P3.2: the code of %v is %d", w, c)
				}
			}
		}
	}
}

func TestP33Check(t *testing.T) {
	for _, x := range []struct {
		coded
		want result
	}{
		{coded{[8]int{}, 0}, clean},
		{coded{[8]int{}, 512}, result{api.LineOne, 8, 9}},
		{coded{[8]int{}, 4}, result{api.LineOne, 8, 2}},
		{coded{[8]int{}, 7}, result{api.LineOne, 0, 3}},
		{coded{[8]int{}, 5}, rotten},
		{coded{[8]int{}, 511}, rotten},
		{coded{[8]int{}, 1023}, rotten},
		{coded{[8]int{}, 329 + 512}, result{api.LineOne, 7, 39}},
		{coded{[8]int{}, 330 + 512}, rotten},
		{coded{word(0, 1), 515}, clean},
		{coded{word(0, 1), 0}, result{api.LineOne, 0, 0}},
		{coded{word(0, 1), 3}, result{api.LineOne, 8, 9}},
		{coded{word(0, 2), 512}, rotten},
	} {
		if got := check(x.coded); got != x.want {
			t.Errorf("P3.3: Check of %v is %v, not %v", x.coded, got, x.want)
		}
	}
	for _, c := range wrong() {
		if got := check(c); got != rotten {
			t.Errorf("P3.3: Check of %v is %v, though it is not valid", c, got)
		}
	}
}

// TestP33CheckAll compares Check with the chapter's sentences, with all codes for some lines.
// Among the syndromes are then all numbers of nine bits, those from 330 on too, each with both parities.
func TestP33CheckAll(t *testing.T) {
	r := newReader()
	far := 0
	for _, w := range lines(chance(33), 10) {
		for n := range 1024 {
			c := coded{w, n}
			want := r.check(c)
			if got := check(c); got != want {
				t.Fatalf("P3.3: Check of %v is %v, not %v", c, got, want)
			}
			if s, p := r.sums(c); s > 329 && p == 1 && want == rotten {
				far++
			}
		}
	}
	if want := 27 * (511 - 329); far != want {
		t.Fatalf("P3.3: %d syndromes of no bit with the parity 1, not %d", far, want)
	}
}

func TestP34Fix(t *testing.T) {
	r := newReader()
	for _, w := range lines(chance(34), 10) {
		for n := range 1024 {
			c := coded{w, n}
			want, wantErr := c, api.OK
			switch found := r.check(c); found.state {
			case api.LineOne:
				want = c.inverted([2]int{found.word, found.bit})
			case api.LineRotten:
				want, wantErr = coded{}, api.ErrRot
			}
			if got, e := fix(c); got != want || e != wantErr {
				t.Fatalf("P3.4: Fix of %v is %v, %v, not %v, %v", c, got, e, want, wantErr)
			}
		}
	}
	for _, c := range wrong() {
		if got, e := fix(c); got != (coded{}) || e != api.ErrArg {
			t.Errorf("P3.4: Fix of %v is %v, %v, though it is not valid", c, got, e)
		}
	}
}

func TestP35Flip(t *testing.T) {
	for _, w := range lines(chance(35), 3) {
		for _, n := range []int{0, 1, 512, 1023, 682} {
			c := coded{w, n}
			for _, at := range places() {
				got, want := flip(c, at), c.inverted(at)
				if got != want {
					t.Fatalf("P3.5: Flip of %v at %v is %v, not %v", c, at, got, want)
				}
				if back := flip(got, at); back != c {
					t.Fatalf("P3.5: Flip twice of %v at %v is %v", c, at, back)
				}
			}
			flipNothing(t, c)
		}
	}
}

// flipNothing checks that words and bits that are none leave a line and its code as they are.
func flipNothing(t *testing.T, c coded) {
	t.Helper()
	real := map[[2]int]bool{}
	for _, at := range places() {
		real[at] = true
	}
	numbers := []int{math.MinInt, -1 << 32, -64, -8, -1, 0, 1, 7, 8, 9, 10, 39, 40, 41, 63, 64, 1 << 32, 1<<32 + 8, math.MaxInt}
	for _, k := range numbers {
		for _, b := range numbers {
			if got := flip(c, [2]int{k, b}); !real[[2]int{k, b}] && got != c {
				t.Fatalf("P3.5: Flip of %v at (%d, %d) is %v", c, k, b, got)
			}
		}
	}
}

func TestP35Distance(t *testing.T) {
	for _, x := range []struct {
		a, b coded
		n    int
	}{
		{coded{}, coded{}, 0},
		{coded{word(0, 3), 0}, coded{[8]int{}, 4}, 3},
		{coded{}, coded{full(api.MaxWord), 1023}, 330},
		{coded{full(api.MaxWord), 0}, coded{full(api.MaxWord), 1023}, 10},
		{coded{word(7, 1<<39), 512}, coded{word(7, 1<<38), 1}, 4},
	} {
		if n, m := distance(x.a, x.b), distance(x.b, x.a); n != x.n || m != x.n {
			t.Errorf("P3.5: the distance of %v and %v is %d and %d, not %d", x.a, x.b, n, m, x.n)
		}
	}
	r := chance(36)
	all := lines(r, 20)
	for range 2000 {
		a := coded{all[below(r, len(all))], below(r, 1024)}
		b := coded{all[below(r, len(all))], below(r, 1024)}
		want := 0
		for _, at := range places() {
			if a.isOne(at) != b.isOne(at) {
				want++
			}
		}
		if n := distance(a, b); n != want {
			t.Fatalf("P3.5: the distance of %v and %v is %d, not %d", a, b, n, want)
		}
	}
}

func TestP35DistanceWrong(t *testing.T) {
	for _, c := range wrong() {
		for _, n := range []int{distance(c, coded{}), distance(coded{}, c), distance(c, c)} {
			if n != -1 {
				t.Errorf("P3.5: a distance of %v is %d, though it is not valid", c, n)
			}
		}
	}
}

func TestP36OneBit(t *testing.T) {
	for _, w := range lines(chance(37), 30) {
		c := withCode(w)
		if got := check(c); got != clean {
			t.Fatalf("P3.6: %v with its code is %v", c, got)
		}
		if got, e := fix(c); got != c || e != api.OK {
			t.Fatalf("P3.6: Fix of %v, which is clean, is %v, %v", c, got, e)
		}
		for _, at := range places() {
			bad := c.inverted(at)
			if got := check(bad); got != (result{api.LineOne, at[0], at[1]}) {
				t.Fatalf("P3.6: %v with the bit %v inverted is %v", c, at, got)
			}
			if got, e := fix(bad); got != c || e != api.OK {
				t.Fatalf("P3.6: Fix of %v with the bit %v inverted is %v, %v", c, at, got, e)
			}
		}
	}
}

// TestP36TwoBits inverts all pairs of bits of some lines.
func TestP36TwoBits(t *testing.T) {
	bits := places()
	for _, w := range lines(chance(38), 2)[3:] {
		c := withCode(w)
		for i, first := range bits {
			for _, second := range bits[:i] {
				bad := c.inverted(first).inverted(second)
				if got := check(bad); got != rotten {
					t.Fatalf("P3.6: %v with the bits %v and %v inverted is %v", c, first, second, got)
				}
				if got, e := fix(bad); got != (coded{}) || e != api.ErrRot {
					t.Fatalf("P3.6: Fix of %v with the bits %v and %v inverted is %v, %v", c, first, second, got, e)
				}
			}
		}
	}
}

func TestP37Pairs(t *testing.T) {
	r := chance(39)
	all := lines(r, 100)
	// Lines that differ in one to three bits are the nearest ones.
	near := places()[:320]
	for _, w := range all[:20] {
		for range 200 {
			c := coded{line: w}
			for range 1 + below(r, 3) {
				c = c.inverted(near[below(r, 320)])
			}
			pair(t, w, c.line)
		}
	}
	for _, v := range all {
		for _, w := range all {
			pair(t, v, w)
		}
	}
}

// pair checks P3.7 for two lines.
func pair(t *testing.T, v, w [8]int) {
	t.Helper()
	a, b := withCode(v), withCode(w)
	if n := distance(a, b); v != w && n < 4 {
		t.Fatalf("P3.7: %v and %v, with their codes, differ in %d bits", v, w, n)
	}
	var sum [8]int
	for k := range sum {
		sum[k] = v[k] ^ w[k]
	}
	if n := code.Encode(sum); n != a.code^b.code {
		t.Fatalf("P3.7: the code of the exclusive or of %v and %v is %d, not %d", v, w, n, a.code^b.code)
	}
}

func TestP38AnyCode(t *testing.T) {
	r := chance(40)
	states := map[int]int{}
	for i, w := range lines(r, 500) {
		c := coded{w, below(r, 1024)}
		// Every third line gets few flipped bits, the others any code at all.
		if i%3 == 0 {
			c = withCode(w)
			for range 1 + below(r, 5) {
				c = c.inverted(places()[below(r, 330)])
			}
		}
		states[check(c).state]++
		anyCode(t, c)
	}
	if states[api.LineOne] < 100 || states[api.LineRotten] < 100 {
		t.Fatalf("P3.8: the lines have the states %v", states)
	}
}

// anyCode checks P3.8 for a line and a code.
func anyCode(t *testing.T, c coded) {
	t.Helper()
	got, e := fix(c)
	if e == api.OK {
		if check(got) != clean || distance(got, c) > 1 {
			t.Fatalf("P3.8: Fix of %v is %v, which is %v, at the distance %d", c, got, check(got), distance(got, c))
		}
		return
	}
	if e != api.ErrRot || check(c) != rotten {
		t.Fatalf("P3.8: Fix of %v is %v, %v, and Check %v", c, got, e, check(c))
	}
	if withCode(c.line) == c {
		t.Fatalf("P3.8: %v is rotten, but has its code", c)
	}
	for _, at := range places() {
		if near := c.inverted(at); withCode(near.line) == near {
			t.Fatalf("P3.8: %v is rotten, but has its code with the bit %v inverted", c, at)
		}
	}
}
