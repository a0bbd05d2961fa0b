package memory_test

import (
	"math"
	"reflect"
	"slices"
	"testing"

	"alum/api"
	"alum/code"
	"alum/memory"
)

// full returns the line whose words are all n.
func full(n int) [8]int { return [8]int{n, n, n, n, n, n, n, n} }

// word returns a line of zeros but for the word k.
func word(k, n int) [8]int {
	var w [8]int
	w[k] = n
	return w
}

// withCode returns a line with its code.
func withCode(w [8]int) api.Line { return api.Line{Words: w, Code: code.Encode(w)} }

// wrongNumbers are no words.
var wrongNumbers = []int{-1, api.MaxWord + 1, math.MinInt, math.MaxInt, -api.MaxWord - 1, 1 << 41}

// outside are no lines of a memory with n lines.
func outside(n int) []int { return []int{-1, n, n + 1, -n, math.MinInt, math.MaxInt, 1 << 32} }

// ok checks that calls had no error.
func ok(t *testing.T, l ...api.Errno) {
	t.Helper()
	for i, e := range l {
		if e != api.OK {
			t.Fatalf("the call %d of %d has the error %d", i, len(l), e)
		}
	}
}

// refused checks that a call has an error, and changes nothing.
func refused(t *testing.T, m *memory.Memory, want api.Errno, call func() api.Errno) {
	t.Helper()
	before := look(m)
	if e := call(); e != want {
		t.Errorf("the error is %d, not %d", e, want)
	}
	if after := look(m); !reflect.DeepEqual(before, after) {
		t.Errorf("the call with the error %d has changed\n%v to\n%v", want, before, after)
	}
}

// loads checks a word.
func loads(t *testing.T, m *memory.Memory, at, want int, wantErr api.Errno) {
	t.Helper()
	if val, e := m.Load(at); val != want || e != wantErr {
		t.Errorf("Load(%d) is %d, %d, not %d, %d", at, val, e, want, wantErr)
	}
}

// holds checks the durable words of a line, and that it has their code.
func holds(t *testing.T, m *memory.Memory, line int, want [8]int) {
	t.Helper()
	if l := m.Image()[line]; l != withCode(want) {
		t.Errorf("the durable line %d is %v, not %v", line, l, withCode(want))
	}
}

// waits checks the pending values of a line, whose stores are all to its first word.
func waits(t *testing.T, m *memory.Memory, line int, vals ...int) {
	t.Helper()
	var want []api.Store
	for _, n := range vals {
		want = append(want, api.Store{Val: n})
	}
	if l := m.Pending(line); !slices.Equal(l, want) {
		t.Errorf("on the line %d is pending %v, not %v", line, l, want)
	}
}

// busy returns a memory of three lines: on the line 1 are four pending stores, two of which have been flushed, and the line 2 is rotten.
func busy(t *testing.T) *memory.Memory {
	t.Helper()
	m := memory.New(3)
	ok(t, m.Heal(0, full(7)), m.Rot(2, word(0, 3), 0))
	m.Span(5)
	ok(t, m.Store(8, 1), m.Publish(8, 2), m.Flush(1), m.Store(8, 3), m.Store(8, 4))
	return m
}

func TestP41New(t *testing.T) {
	for _, n := range []int{0, -1, api.MaxLines + 1, math.MinInt, math.MaxInt} {
		if memory.New(n) != nil {
			t.Errorf("P4.1: New(%d) is a memory", n)
		}
	}
	for _, n := range []int{1, 2, 100, api.MaxLines} {
		m := memory.New(n)
		if m == nil || m.Lines() != n {
			t.Fatalf("P4.1: New(%d) has not so many lines", n)
		}
		if !slices.Equal(m.Image(), make(api.Image, n)) || !slices.Equal(m.Seen(), make([][8]int, n)) || len(m.Events()) != 0 {
			t.Errorf("P4.1: New(%d) is not a memory of zeros", n)
		}
		for i := range n {
			if m.State(i) != api.LineClean || len(m.Pending(i)) != 0 {
				t.Fatalf("P4.1: the line %d of New(%d) has the state %d, and %v is pending", i, n, m.State(i), m.Pending(i))
			}
		}
		loads(t, m, 8*n-1, 0, api.OK)
		loads(t, m, 8*n, 0, api.ErrAddress)
	}
}

func TestP41From(t *testing.T) {
	img := api.Image{
		withCode(full(api.MaxWord)),
		{Words: word(3, 1<<39), Code: code.Encode([8]int{})},
		{Words: word(0, 3), Code: 0},
		{Words: [8]int{}, Code: 1023},
		withCode(word(7, 1)),
	}
	m := memory.From(img)
	if m == nil || m.Lines() != 5 || !slices.Equal(m.Image(), img) || len(m.Events()) != 0 {
		t.Fatal("P4.1: From has not the lines of the image")
	}
	states := []int{api.LineClean, api.LineOne, api.LineRotten, api.LineRotten, api.LineClean}
	seen := [][8]int{full(api.MaxWord), {}, {}, {}, word(7, 1)}
	for i := range img {
		if m.State(i) != states[i] || m.Seen()[i] != seen[i] || len(m.Pending(i)) != 0 {
			t.Errorf("P4.1: the line %d has the state %d, and shows %v", i, m.State(i), m.Seen()[i])
		}
	}
	agree(t, m, newModel(img))
	if m := memory.From(make(api.Image, api.MaxLines)); m == nil || m.Lines() != api.MaxLines {
		t.Error("P4.1: From of MaxLines lines has not so many")
	}
}

func TestP41FromWrong(t *testing.T) {
	images := []api.Image{nil, {}, make(api.Image, api.MaxLines+1)}
	for _, n := range wrongNumbers {
		for k := range 8 {
			images = append(images, api.Image{{Words: word(k, n)}}, api.Image{{}, {Words: word(k, n), Code: 5}, {}})
		}
	}
	for _, n := range []int{-1, 1024, math.MinInt, math.MaxInt} {
		images = append(images, api.Image{{Code: n}}, api.Image{{}, {}, {Code: n}})
	}
	for _, img := range images {
		if memory.From(img) != nil {
			t.Errorf("P4.1: From of %d lines, the first ones %v, is a memory", len(img), img[:min(3, len(img))])
		}
	}
}

func TestP42Load(t *testing.T) {
	m := busy(t)
	for at := range 8 {
		loads(t, m, at, 7, api.OK)
		loads(t, m, 16+at, 0, api.ErrRot)
	}
	loads(t, m, 8, 4, api.OK)
	loads(t, m, 9, 0, api.OK)
	for _, at := range []int{-1, -8, -9, 24, 25, math.MinInt, math.MaxInt, 1 << 32} {
		loads(t, m, at, 0, api.ErrAddress)
	}
	// What is pending is made on corrected words.
	one := memory.From(api.Image{{Words: full(1), Code: code.Encode(full(1)) ^ 2}, {Words: word(5, 9^4), Code: code.Encode(word(5, 9))}})
	ok(t, one.Store(9, 2))
	loads(t, one, 7, 1, api.OK)
	loads(t, one, 9, 2, api.OK)
	loads(t, one, 13, 9, api.OK)
}

func TestP43Store(t *testing.T) {
	for _, kind := range []int{api.EvStore, api.EvPublish} {
		m := memory.New(2)
		store := func(at, val int) api.Errno { return do(m, api.Event{Kind: kind, At: at, Val: val}) }
		ok(t, store(0, 0), store(7, api.MaxWord), store(15, 5), store(15, 6))
		m.Span(api.MaxWord)
		ok(t, store(8, 1))
		m.Span(-1)
		ok(t, store(8, 2))
		m.Span(3)
		m.Span(math.MinInt)
		ok(t, store(8, 3))
		if l := m.Pending(0); !slices.Equal(l, []api.Store{{Word: 0, Val: 0}, {Word: 7, Val: api.MaxWord}}) {
			t.Error("P4.3: pending", l)
		}
		if l := m.Pending(1); !slices.Equal(l, []api.Store{{Word: 7, Val: 5}, {Word: 7, Val: 6}, {Word: 0, Val: 1}, {Word: 0, Val: 2}, {Word: 0, Val: 3}}) {
			t.Error("P4.3: pending", l)
		}
		want := []api.Event{{Kind: kind}, {Kind: kind, At: 7, Val: api.MaxWord}, {Kind: kind, At: 15, Val: 5}, {Kind: kind, At: 15, Val: 6}, {Kind: kind, At: 8, Val: 1, Span: api.MaxWord}, {Kind: kind, At: 8, Val: 2}, {Kind: kind, At: 8, Val: 3}}
		if l := m.Events(); !slices.Equal(l, want) {
			t.Errorf("P4.3: the events are %v, not %v", l, want)
		}
		if m.Seen()[0] != [8]int{7: api.MaxWord} || m.Seen()[1] != [8]int{0: 3, 7: 6} || !slices.Equal(m.Image(), make(api.Image, 2)) {
			t.Error("P4.3: seen", m.Seen(), "durable", m.Image())
		}
	}
}

func TestP43StoreRefused(t *testing.T) {
	for _, kind := range []int{api.EvStore, api.EvPublish} {
		m := busy(t)
		store := func(want api.Errno, at, val int) {
			t.Helper()
			refused(t, m, want, func() api.Errno { return do(m, api.Event{Kind: kind, At: at, Val: val}) })
		}
		for _, at := range []int{-1, -7, -8, 24, 25, math.MinInt, math.MaxInt} {
			store(api.ErrAddress, at, 1)
			store(api.ErrAddress, at, -1)
		}
		for _, n := range wrongNumbers {
			store(api.ErrArg, 0, n)
			store(api.ErrArg, 23, n)
		}
		store(api.ErrRot, 16, 0)
		store(api.ErrRot, 23, api.MaxWord)
	}
}

func TestP43SpanAfterFailure(t *testing.T) {
	m := memory.New(1)
	m.Span(8)
	m.Forget()
	ok(t, m.Store(0, 1))
	c := m.Copy()
	ok(t, c.Publish(0, 2), m.Crash(nil), m.Publish(0, 3))
	if l := c.Events(); len(l) != 2 || l[0].Span != 8 || l[1].Span != 8 {
		t.Error("P4.3: the span is forgotten, or not copied:", l)
	}
	if l := m.Events(); !slices.Equal(l, []api.Event{{Kind: api.EvPublish, Val: 3}}) {
		t.Error("P4.3: after a failure:", l)
	}
}

func TestP44FlushFence(t *testing.T) {
	m := memory.New(3)
	ok(t, m.Flush(2), m.Store(8, 1), m.Store(8, 2), m.Store(16, 7), m.Flush(1), m.Store(8, 3))
	holds(t, m, 1, [8]int{})
	m.Fence()
	holds(t, m, 1, word(0, 2))
	holds(t, m, 2, [8]int{})
	waits(t, m, 1, 3)
	waits(t, m, 2, 7)
	// What was stored after the Flush has not been flushed, however many fences are made.
	m.Fence()
	holds(t, m, 1, word(0, 2))
	waits(t, m, 1, 3)
	ok(t, m.Flush(1), m.Flush(2), m.Store(8, 4), m.Flush(1))
	m.Fence()
	holds(t, m, 1, word(0, 4))
	holds(t, m, 2, word(0, 7))
	waits(t, m, 1)
	waits(t, m, 2)
	want := []int{api.EvFlush, api.EvStore, api.EvStore, api.EvStore, api.EvFlush, api.EvStore, api.EvFence, api.EvFence, api.EvFlush, api.EvFlush, api.EvStore, api.EvFlush, api.EvFence}
	l := m.Events()
	for i, v := range l {
		if len(l) != len(want) || v.Kind != want[i] {
			t.Fatalf("P4.4: the events are %v", l)
		}
	}
	if l[4] != (api.Event{Kind: api.EvFlush, At: 1}) || l[7] != (api.Event{Kind: api.EvFence}) {
		t.Errorf("P4.4: the events are %v and %v", l[4], l[7])
	}
	// A rotten line can be flushed.
	m = busy(t)
	ok(t, m.Flush(2))
}

func TestP44Evict(t *testing.T) {
	// Two of four stores are marked; an eviction of n leaves 2-n marked, or none.
	for n, fenced := range []int{2, 2, 2, 3, 4} {
		m := busy(t)
		if n > 0 {
			ok(t, m.Evict(1, n))
		}
		holds(t, m, 1, word(0, n))
		waits(t, m, 1, []int{1, 2, 3, 4}[n:]...)
		loads(t, m, 8, 4, api.OK)
		if l := m.Events(); n > 0 && l[len(l)-1] != (api.Event{Kind: api.EvEvict, At: 1, Val: n}) {
			t.Errorf("P4.4: the event is %v", l[len(l)-1])
		}
		m.Fence()
		holds(t, m, 1, word(0, fenced))
		waits(t, m, 1, []int{1, 2, 3, 4}[fenced:]...)
		// What is stored later has not been flushed.
		ok(t, m.Store(8, 5))
		m.Fence()
		holds(t, m, 1, word(0, fenced))
	}
}

func TestP44Refused(t *testing.T) {
	m := busy(t)
	for _, line := range outside(3) {
		refused(t, m, api.ErrAddress, func() api.Errno { return m.Flush(line) })
		refused(t, m, api.ErrAddress, func() api.Errno { return m.Evict(line, 1) })
		refused(t, m, api.ErrAddress, func() api.Errno { return m.Evict(line, -1) })
	}
	for _, n := range []int{0, -1, 5, math.MinInt, math.MaxInt} {
		refused(t, m, api.ErrArg, func() api.Errno { return m.Evict(1, n) })
	}
	for _, line := range []int{0, 2} {
		refused(t, m, api.ErrArg, func() api.Errno { return m.Evict(line, 1) })
		refused(t, m, api.ErrArg, func() api.Errno { return m.Evict(line, 0) })
	}
}

// TestP44SettleOne settles lines with one flipped bit; it stays flipped until something is settled.
func TestP44SettleOne(t *testing.T) {
	flawed := api.Line{Words: word(0, 6), Code: code.Encode(word(0, 2))}
	settle := map[string]func(m *memory.Memory) api.Errno{
		"fence": func(m *memory.Memory) api.Errno { m.Flush(1); m.Fence(); return api.OK },
		"evict": func(m *memory.Memory) api.Errno { return m.Evict(1, 1) },
		"crash": func(m *memory.Memory) api.Errno { return m.Crash([]api.Cut{{Line: 1, Keep: 1}}) },
	}
	for name, call := range settle {
		m := memory.From(api.Image{flawed, flawed})
		ok(t, m.Store(8+3, 5))
		m.Fence()
		if m.Image()[1] != flawed || m.State(1) != api.LineOne {
			t.Errorf("P4.4: with nothing flushed the line is %v", m.Image()[1])
		}
		loads(t, m, 8, 2, api.OK)
		c := m.Copy()
		ok(t, call(m), c.Crash([]api.Cut{{Line: 0}, {Line: 1}}))
		if want := withCode([8]int{0: 2, 3: 5}); m.Image()[1] != want || m.State(1) != api.LineClean || m.Image()[0] != flawed {
			t.Errorf("P4.4: %s leaves %v", name, m.Image())
		}
		if !slices.Equal(c.Image(), api.Image{flawed, flawed}) {
			t.Errorf("P4.7: a failure that keeps nothing leaves %v", c.Image())
		}
	}
}

func TestP45Heal(t *testing.T) {
	m := busy(t)
	ok(t, m.Heal(1, word(2, api.MaxWord)))
	holds(t, m, 1, word(2, api.MaxWord))
	waits(t, m, 1)
	// The mark is 0, too.
	ok(t, m.Store(8, 9), m.Store(8, 8))
	m.Fence()
	holds(t, m, 1, word(2, api.MaxWord))
	waits(t, m, 1, 9, 8)
	ok(t, m.Heal(2, full(1)))
	if m.State(2) != api.LineClean {
		t.Error("P4.5: a healed line has the state", m.State(2))
	}
	loads(t, m, 16, 1, api.OK)
	ok(t, m.Store(16, 2), m.Heal(0, [8]int{}))
	l := m.Events()
	if v := l[len(l)-3]; v != (api.Event{Kind: api.EvHeal, At: 2, Words: full(1)}) {
		t.Error("P4.5: the event is", v)
	}
}

func TestP45Rot(t *testing.T) {
	m := memory.New(2)
	m.Span(3)
	ok(t, m.Heal(1, word(0, 5)), m.Rot(1, [8]int{0: 4, 7: 1}, 9), m.Rot(0, [8]int{}, 0))
	c := code.Encode(word(0, 5))
	if l := m.Image()[1]; l != (api.Line{Words: [8]int{0: 1, 7: 1}, Code: c ^ 9}) || m.Image()[0] != (api.Line{}) {
		t.Error("P4.5: rot leaves", m.Image())
	}
	ok(t, m.Rot(1, full(api.MaxWord), 1023), m.Rot(1, full(api.MaxWord), 1023), m.Rot(1, [8]int{7: 1}, 1), m.Rot(1, [8]int{0: 4}, 8))
	holds(t, m, 1, word(0, 5))
	if l := m.Events(); l[1] != (api.Event{Kind: api.EvRot, At: 1, Val: 9, Words: [8]int{0: 4, 7: 1}}) || l[2] != (api.Event{Kind: api.EvRot}) || len(l) != 7 {
		t.Error("P4.5: the events are", l)
	}
	// A line of which all that was pending has become durable may rot.
	m = busy(t)
	ok(t, m.Evict(1, 4), m.Rot(1, word(1, 1), 0))
	if m.State(1) != api.LineOne {
		t.Error("P4.5: one flipped bit has the state", m.State(1))
	}
}

func TestP45Refused(t *testing.T) {
	m := busy(t)
	wrong := full(-1)
	for _, line := range outside(3) {
		refused(t, m, api.ErrAddress, func() api.Errno { return m.Heal(line, [8]int{}) })
		refused(t, m, api.ErrAddress, func() api.Errno { return m.Heal(line, wrong) })
		refused(t, m, api.ErrAddress, func() api.Errno { return m.Rot(line, [8]int{}, 0) })
		refused(t, m, api.ErrAddress, func() api.Errno { return m.Rot(line, wrong, -1) })
	}
	for _, line := range []int{0, 1, 2} {
		for _, n := range wrongNumbers {
			for k := range 8 {
				refused(t, m, api.ErrArg, func() api.Errno { return m.Heal(line, word(k, n)) })
				refused(t, m, api.ErrArg, func() api.Errno { return m.Rot(line, word(k, n), 0) })
			}
		}
		for _, n := range []int{-1, 1024, math.MinInt, math.MaxInt} {
			refused(t, m, api.ErrArg, func() api.Errno { return m.Rot(line, [8]int{}, n) })
		}
	}
	refused(t, m, api.ErrState, func() api.Errno { return m.Rot(1, [8]int{}, 0) })
	refused(t, m, api.ErrState, func() api.Errno { return m.Rot(1, full(api.MaxWord), 1023) })
}

func TestP46StatePending(t *testing.T) {
	m := busy(t)
	ok(t, m.Rot(0, [8]int{}, 512))
	for i, want := range []int{api.LineOne, api.LineClean, api.LineRotten} {
		if n := m.State(i); n != want {
			t.Errorf("P4.6: the line %d has the state %d, not %d", i, n, want)
		}
	}
	for _, line := range outside(3) {
		if m.State(line) != -1 || len(m.Pending(line)) != 0 {
			t.Errorf("P4.6: the line %d has the state %d, and %v is pending", line, m.State(line), m.Pending(line))
		}
	}
	waits(t, m, 0)
	waits(t, m, 1, 1, 2, 3, 4)
	waits(t, m, 2)
	// The state is that of the durable words, whatever is pending.
	ok(t, m.Store(0, 1))
	if m.State(0) != api.LineOne {
		t.Error("P4.6: with a pending store the state is", m.State(0))
	}
}

func TestP47Crash(t *testing.T) {
	for keep := range 5 {
		m := busy(t)
		ok(t, m.Store(0, 1), m.Store(0, 2), m.Flush(0))
		cuts := []api.Cut{{Line: 1, Keep: keep}, {Line: 2, Keep: 0}}
		ok(t, m.Crash(cuts))
		if !slices.Equal(cuts, []api.Cut{{Line: 1, Keep: keep}, {Line: 2}}) {
			t.Error("P4.7: the cuts have become", cuts)
		}
		holds(t, m, 0, full(7))
		holds(t, m, 1, word(0, keep))
		waits(t, m, 0)
		waits(t, m, 1)
		if m.State(2) != api.LineRotten || len(m.Events()) != 0 {
			t.Error("P4.7: a failure leaves the state", m.State(2), "and the events", m.Events())
		}
		// The marks are gone.
		ok(t, m.Store(8, 9), m.Store(0, 9))
		m.Fence()
		holds(t, m, 0, full(7))
		holds(t, m, 1, word(0, keep))
		if l := m.Events(); !slices.Equal(l, []api.Event{{Kind: api.EvStore, At: 8, Val: 9}, {Kind: api.EvStore, At: 0, Val: 9}, {Kind: api.EvFence}}) {
			t.Error("P4.7: the events after a failure are", l)
		}
	}
	m := busy(t)
	ok(t, m.Crash([]api.Cut{}), m.Crash(nil), m.Crash([]api.Cut{{Line: 0}, {Line: 1}, {Line: 2}}))
	holds(t, m, 1, [8]int{})
}

func TestP47Refused(t *testing.T) {
	m := busy(t)
	ok(t, m.Store(0, 1), m.Store(0, 2))
	for _, cuts := range [][]api.Cut{
		{{Line: 1, Keep: 1}, {Line: 0, Keep: 1}},
		{{Line: 1, Keep: 1}, {Line: 1, Keep: 1}},
		{{Line: 0}, {Line: 1, Keep: 1}, {Line: 1}},
		{{Line: 0}, {Line: 2}, {Line: 1}},
		{{Line: -1}},
		{{Line: -1}, {Line: 0, Keep: 1}},
		{{Line: 3}},
		{{Line: 0, Keep: 1}, {Line: 3}},
		{{Line: math.MinInt}}, {{Line: math.MaxInt}},
		{{Line: 0, Keep: -1}},
		{{Line: 0, Keep: 3}},
		{{Line: 0, Keep: 2}, {Line: 1, Keep: -1}},
		{{Line: 0, Keep: 2}, {Line: 1, Keep: 5}},
		{{Line: 1, Keep: 4}, {Line: 2, Keep: 1}},
		{{Line: 0, Keep: math.MinInt}}, {{Line: 0, Keep: math.MaxInt}},
	} {
		refused(t, m, api.ErrArg, func() api.Errno { return m.Crash(cuts) })
	}
}

func TestP48Views(t *testing.T) {
	m := busy(t)
	rotten := api.Line{Words: word(0, 3)}
	if img := m.Image(); !slices.Equal(img, api.Image{withCode(full(7)), {}, rotten}) {
		t.Error("P4.8: the image is", img)
	}
	if l := m.Seen(); !slices.Equal(l, [][8]int{full(7), word(0, 4), {}}) {
		t.Error("P4.8: seen is", l)
	}
	want := []api.Event{
		{Kind: api.EvHeal, At: 0, Words: full(7)}, {Kind: api.EvRot, At: 2, Words: word(0, 3)},
		{Kind: api.EvStore, At: 8, Val: 1, Span: 5}, {Kind: api.EvPublish, At: 8, Val: 2, Span: 5}, {Kind: api.EvFlush, At: 1},
		{Kind: api.EvStore, At: 8, Val: 3, Span: 5}, {Kind: api.EvStore, At: 8, Val: 4, Span: 5},
	}
	if l := m.Events(); !slices.Equal(l, want) {
		t.Errorf("P4.8: the events are %v, not %v", l, want)
	}
	// Forget removes the events only: what is pending, the mark and the span are as before.
	before := look(m)
	m.Forget()
	before.events = []api.Event{}
	if after := look(m); !reflect.DeepEqual(before, after) {
		t.Errorf("P4.8: Forget has changed %v to %v", before, after)
	}
	ok(t, m.Evict(1, 1))
	if l := m.Events(); !slices.Equal(l, []api.Event{{Kind: api.EvEvict, At: 1, Val: 1}}) {
		t.Error("P4.8: after Forget and Evict the events are", l)
	}
}

// TestP48NewMemory changes all that was given and returned.
func TestP48NewMemory(t *testing.T) {
	img := api.Image{withCode(full(1)), withCode(full(2))}
	given := slices.Clone(img)
	m := memory.From(given)
	ok(t, m.Store(0, 5), m.Flush(0), m.Store(0, 6), m.Store(8, 7))
	before := look(m)
	given[0], given[1] = api.Line{}, api.Line{Code: 3}
	image, seen, pending, events := m.Image(), m.Seen(), m.Pending(0), m.Events()
	for i := range 2 {
		image[i], seen[i], pending[i], events[i] = api.Line{Code: 9}, full(9), api.Store{Word: 9}, api.Event{Kind: 9}
	}
	// What is appended to a result is not seen by the memory, nor by another result.
	first, second := m.Pending(0), m.Events()
	_, _ = append(first, api.Store{Val: 8}), append(second, api.Event{Kind: 8})
	if after := look(m); !reflect.DeepEqual(before, after) {
		t.Errorf("P4.8: changing results has changed %v to %v", before, after)
	}
	ok(t, m.Store(0, 7))
	if len(first) != 2 || len(second) != 4 || first[1].Val != 6 || m.Image()[0] != img[0] {
		t.Error("P4.8: a call has changed earlier results:", first, second)
	}
	m.Fence()
	if image[0] != (api.Line{Code: 9}) || seen[0] != full(9) {
		t.Error("P4.8: a call has changed what was returned before")
	}
}

// TestP48Copy changes a copy and its original, in turn.
func TestP48Copy(t *testing.T) {
	m := busy(t)
	before := look(m)
	c := m.Copy()
	if after := look(c); !reflect.DeepEqual(before, after) {
		t.Fatalf("P4.8: the copy of %v is %v", before, after)
	}
	// What is marked is copied, too.
	ok(t, c.Store(0, 1))
	c.Fence()
	holds(t, c, 1, word(0, 2))
	waits(t, c, 1, 3, 4)
	waits(t, m, 1, 1, 2, 3, 4)
	waits(t, m, 0)
	for turn := range 2 {
		m := busy(t)
		pair := [2]*memory.Memory{m, m.Copy()}
		for i, change := range []func(m *memory.Memory) api.Errno{
			func(m *memory.Memory) api.Errno { return m.Store(9, 3) },
			func(m *memory.Memory) api.Errno { return m.Flush(1) },
			func(m *memory.Memory) api.Errno { m.Span(77); return api.OK },
			func(m *memory.Memory) api.Errno { return m.Evict(1, 1) },
			func(m *memory.Memory) api.Errno { m.Fence(); return api.OK },
			func(m *memory.Memory) api.Errno { return m.Rot(0, word(1, 2), 3) },
			func(m *memory.Memory) api.Errno { return m.Heal(1, full(3)) },
			func(m *memory.Memory) api.Errno { m.Forget(); return api.OK },
			func(m *memory.Memory) api.Errno { return m.Crash(nil) },
		} {
			// Each change is made first to the original in one turn, and to the copy in the other one.
			first, second := pair[(i+turn)%2], pair[(i+turn+1)%2]
			before := look(second)
			ok(t, change(first))
			if after := look(second); !reflect.DeepEqual(before, after) {
				t.Errorf("P4.8: the change %d of the other one has changed %v to %v", i, before, after)
			}
			ok(t, change(second))
			if a, b := look(first), look(second); !reflect.DeepEqual(a, b) {
				t.Errorf("P4.8: the same calls have led to %v and %v", a, b)
			}
		}
	}
}

// TestP48CopyGoesOn lets a copy and its original store something else behind what they have in common, however much that is.
func TestP48CopyGoesOn(t *testing.T) {
	for n := range 20 {
		m := memory.New(1)
		var common []int
		for i := range n {
			ok(t, m.Store(0, i))
			common = append(common, i)
		}
		c := m.Copy()
		ok(t, m.Store(0, 50), c.Store(0, 60), m.Store(0, 51), c.Store(0, 61))
		waits(t, m, 0, append(slices.Clone(common), 50, 51)...)
		waits(t, c, 0, append(slices.Clone(common), 60, 61)...)
		a, b := m.Events(), c.Events()
		if len(a) != n+2 || len(b) != n+2 || a[n].Val != 50 || a[n+1].Val != 51 || b[n].Val != 60 || b[n+1].Val != 61 {
			t.Errorf("P4.8: the events are %v and %v", a, b)
		}
	}
}

func TestExamples(t *testing.T) {
	m := memory.New(2)
	ok(t, m.Store(9, 5))
	loads(t, m, 9, 5, api.OK)
	if n := m.Image()[1].Words[1]; n != 0 {
		t.Error("the durable word is", n)
	}
	ok(t, m.Crash(nil))
	loads(t, m, 9, 0, api.OK)

	m = memory.New(2)
	ok(t, m.Store(9, 5), m.Store(10, 6), m.Crash([]api.Cut{{Line: 1, Keep: 1}}))
	loads(t, m, 9, 5, api.OK)
	loads(t, m, 10, 0, api.OK)

	m = memory.New(2)
	ok(t, m.Store(8, 1), m.Flush(1), m.Store(8, 2))
	m.Fence()
	ok(t, m.Crash(nil))
	loads(t, m, 8, 1, api.OK)

	m = memory.New(2)
	ok(t, m.Rot(0, word(0, 1), 0))
	loads(t, m, 0, 0, api.OK)
	if m.State(0) != api.LineOne {
		t.Error("the state is", m.State(0))
	}
}
