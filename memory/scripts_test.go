package memory_test

import (
	"math/rand/v2"
	"reflect"
	"testing"

	"alum/api"
	"alum/code"
	"alum/memory"
)

// TestP4Scripts makes many calls of all kinds, with valid arguments and with others, and compares all that can be seen with the model after each one.
func TestP4Scripts(t *testing.T) {
	r := chance(44)
	errs := map[api.Errno]int{}
	for range 150 {
		img := anyImage(r, 1+below(r, 4))
		m, want := memory.From(img), newModel(img)
		for range 150 {
			e, wantErr := api.OK, api.OK
			switch below(r, 30) {
			case 0:
				cuts := anyCuts(r, want)
				e, wantErr = m.Crash(cuts), want.crash(cuts)
			case 1:
				m.Forget()
				want.events = nil
			case 2, 3:
				n := below(r, 50) - 10
				m.Span(n)
				want.span = max(0, n)
			case 4:
				// The original may change as it likes.
				old := m
				m = m.Copy()
				for range 5 {
					do(old, anyEvent(r, want))
				}
			default:
				v := anyEvent(r, want)
				e, wantErr = do(m, v), want.do(v)
			}
			if e != wantErr {
				t.Fatalf("the error is %d, not %d", e, wantErr)
			}
			errs[e]++
			agree(t, m, want)
		}
	}
	for _, e := range []api.Errno{api.OK, api.ErrArg, api.ErrAddress, api.ErrRot, api.ErrState} {
		if errs[e] < 50 {
			t.Errorf("only %d calls have the error %d", errs[e], e)
		}
	}
}

// past is what the events since the last failure say of a line: what was durable then, all stores, how many of them are settled, how many had been made at the last flush, and how many of those a fence has followed.
type past struct {
	base                   api.Line
	stores                 []api.Store
	settled, flushed, safe int
}

// see takes one more event into account.
func (p *past) see(line int, v api.Event) {
	switch {
	case v.Kind == api.EvFence:
		p.safe = p.flushed
		p.settled = max(p.settled, p.flushed)
	case v.Kind == api.EvFlush && v.At == line:
		p.flushed = len(p.stores)
	case v.Kind == api.EvEvict && v.At == line:
		p.settled += v.Val
	case (v.Kind == api.EvStore || v.Kind == api.EvPublish) && v.At/8 == line:
		p.stores = append(p.stores, api.Store{Word: v.At % 8, Val: v.Val})
	}
}

// left returns the durable line after the first n stores.
func (p *past) left(n int) api.Line {
	if n == 0 {
		return p.base
	}
	words, _, _ := code.Fix(p.base.Words, p.base.Code)
	for _, s := range p.stores[:n] {
		words[s.Word] = s.Val
	}
	return api.Line{Words: words, Code: code.Encode(words)}
}

// pasts reads the events of a memory whose durable lines were those of base.
func pasts(base api.Image, events []api.Event) []past {
	all := make([]past, len(base))
	for line := range all {
		all[line].base = base[line]
		for _, v := range events {
			all[line].see(line, v)
		}
	}
	return all
}

// choice returns the k-th way in which a failure can choose cuts, for all lines; k is written in the mixed base of the numbers of choices.
func choice(all []past, k int) []api.Cut {
	var cuts []api.Cut
	for line, p := range all {
		ways := len(p.stores) - p.settled + 1
		cuts = append(cuts, api.Cut{Line: line, Keep: k % ways})
		k /= ways
	}
	return cuts
}

// choices returns all cuts that a failure can have, or 40 of them if there are more.
func choices(r *rand.ChaCha8, all []past) [][]api.Cut {
	total := 1
	for _, p := range all {
		total *= len(p.stores) - p.settled + 1
	}
	var list [][]api.Cut
	for k := range min(total, 40) {
		if total > 40 {
			k = below(r, total)
		}
		list = append(list, choice(all, k))
	}
	return list
}

// fail checks P4.9 for a failure, and returns the memory behind it.
func fail(t *testing.T, m *memory.Memory, all []past, cuts []api.Cut) *memory.Memory {
	t.Helper()
	c := m.Copy()
	ok(t, c.Crash(cuts))
	img, seen := c.Image(), c.Seen()
	for i, p := range all {
		kept := p.settled + cuts[i].Keep
		if p.safe > kept || len(m.Pending(i)) != len(p.stores)-p.settled {
			t.Fatalf("P4.9: of the line %d are %d stores of %d kept, though %d are safe; %v is pending", i, kept, len(p.stores), p.safe, m.Pending(i))
		}
		want := p.left(kept)
		words, _, _ := code.Fix(want.Words, want.Code)
		if img[i] != want || seen[i] != words || len(c.Pending(i)) != 0 {
			t.Fatalf("P4.9: %v leave of the line %d %v, not %v", cuts, i, img[i], want)
		}
	}
	return c
}

// TestP49Failures makes scripts of calls, with failures of many kinds after each of them, and goes on after some.
func TestP49Failures(t *testing.T) {
	r := chance(49)
	kept, lost := 0, 0
	for range 120 {
		base := anyImage(r, 1+below(r, 3))
		m := memory.From(base)
		for range 60 {
			v := anyEvent(r, newModel(base))
			if v.Kind == api.EvHeal || v.Kind == api.EvRot {
				continue
			}
			do(m, v)
			all := pasts(base, m.Events())
			for _, p := range all {
				kept += p.settled
				lost += len(p.stores) - p.settled
			}
			list := choices(r, all)
			for _, cuts := range list {
				fail(t, m, all, cuts)
			}
			if below(r, 15) == 0 {
				m = fail(t, m, all, list[below(r, len(list))])
				base = m.Image()
			}
		}
	}
	if kept < 1000 || lost < 1000 {
		t.Errorf("of the stores %d are durable and %d pending", kept, lost)
	}
}

// TestP49Independent lets each of two lines keep whatever it can, with each choice of the other one.
func TestP49Independent(t *testing.T) {
	m := memory.New(2)
	for n := 1; n <= 3; n++ {
		ok(t, m.Store(0, n), m.Store(8+n, n))
	}
	ok(t, m.Flush(1))
	second := [][8]int{{}, {0, 1}, {0, 1, 2}, {0, 1, 2, 3}}
	for a := range 4 {
		for b := range 4 {
			c := m.Copy()
			ok(t, c.Crash([]api.Cut{{Line: 0, Keep: a}, {Line: 1, Keep: b}}))
			holds(t, c, 0, word(0, a))
			holds(t, c, 1, second[b])
		}
	}
}

// one returns the words and the code with which Rot flips a bit of a line: 320 of the words, then 10 of the code.
func one(bit int) (words [8]int, code int) {
	if bit < 320 {
		return word(bit/40, 1<<(bit%40)), 0
	}
	return words, 1 << (bit - 320)
}

// rot flips bits of the line 0, one after the other.
func rot(t *testing.T, m *memory.Memory, bits ...int) {
	t.Helper()
	for _, bit := range bits {
		words, code := one(bit)
		ok(t, m.Rot(0, words, code))
	}
}

// lines are lines of words for the tests of flipped bits.
func lines(r *rand.ChaCha8) [][8]int {
	return [][8]int{{}, full(api.MaxWord), {below(r, 1<<40), 3, below(r, 1<<40), 7: below(r, 1<<40)}}
}

func TestP410OneBit(t *testing.T) {
	for _, w := range lines(chance(50)) {
		for bit := range 330 {
			m := memory.From(api.Image{withCode(w)})
			rot(t, m, bit)
			if m.State(0) != api.LineOne || m.Seen()[0] != w {
				t.Fatalf("P4.10: with the bit %d flipped the state is %d, and %v is seen", bit, m.State(0), m.Seen()[0])
			}
			for k, n := range w {
				loads(t, m, k, n, api.OK)
			}
			changed := w
			changed[bit%8] = 12345
			ok(t, m.Store(bit%8, 12345), m.Flush(0))
			if m.State(0) != api.LineOne || m.Seen()[0] != changed {
				t.Fatalf("P4.10: with the bit %d flipped and a store %v is seen", bit, m.Seen()[0])
			}
			m.Fence()
			holds(t, m, 0, changed)
		}
	}
}

// TestP410TwoBits flips all pairs of bits of some lines.
func TestP410TwoBits(t *testing.T) {
	for _, w := range lines(chance(51)) {
		m := memory.From(api.Image{withCode(w)})
		for a := range 330 {
			for b := range a {
				m.Forget()
				rot(t, m, a, b)
				k := b % 8
				val, e := m.Load(k)
				if val != 0 || e != api.ErrRot || m.State(0) != api.LineRotten || m.Store(k, 1) != api.ErrRot || m.Publish(k, 1) != api.ErrRot {
					t.Fatalf("P4.10: with the bits %d and %d flipped Load is %d, %d, and the state %d", a, b, val, e, m.State(0))
				}
				// Another bit flips: one of the two flips back.
				rot(t, m, a)
				val, e = m.Load(k)
				if val != w[k] || e != api.OK || m.State(0) != api.LineOne {
					t.Fatalf("P4.10: with the bit %d flipped Load is %d, %d, and the state %d", b, val, e, m.State(0))
				}
				rot(t, m, b)
			}
		}
	}
}

func TestP410Healed(t *testing.T) {
	m := memory.New(2)
	ok(t, m.Store(3, 77), m.Flush(0))
	m.Fence()
	rot(t, m, 5, 329)
	if m.Seen()[0] != [8]int{} {
		t.Error("P4.10: of a rotten line is seen", m.Seen()[0])
	}
	refused(t, m, api.ErrRot, func() api.Errno { return m.Store(3, 1) })
	ok(t, m.Flush(0), m.Crash([]api.Cut{{Line: 0}}))
	loads(t, m, 3, 0, api.ErrRot)
	loads(t, m, 8, 0, api.OK)
	ok(t, m.Heal(0, word(3, 78)), m.Store(4, 1))
	loads(t, m, 3, 78, api.OK)
	loads(t, m, 4, 1, api.OK)
}

// TestP410ThreeBits flips three bits, which may be taken for one; whatever the state is, loads and stores follow it.
func TestP410ThreeBits(t *testing.T) {
	r := chance(52)
	states := map[int]int{}
	for _, w := range lines(r) {
		for range 3000 {
			m := memory.From(api.Image{withCode(w)})
			rot(t, m, below(r, 330), below(r, 330), below(r, 330))
			l := m.Image()[0]
			state, _, _ := code.Check(l.Words, l.Code)
			words, _, e := code.Fix(l.Words, l.Code)
			states[state]++
			if m.State(0) != state || !reflect.DeepEqual(m.Seen(), [][8]int{words}) {
				t.Fatalf("P4.10: the line %v has the state %d, and shows %v", l, m.State(0), m.Seen())
			}
			for k, n := range words {
				loads(t, m, k, n, e)
			}
			if m.Store(2, 1) != e {
				t.Fatalf("P4.10: a store to the line %v in the state %d has another error than %d", l, state, e)
			}
		}
	}
	if states[api.LineOne] < 100 || states[api.LineRotten] < 100 {
		t.Errorf("P4.10: the states are %v", states)
	}
}
