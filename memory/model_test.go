package memory_test

import (
	"math/rand/v2"
	"reflect"
	"slices"
	"testing"

	"alum/api"
	"alum/code"
	"alum/memory"
)

// chance returns a source of numbers that are the same in every run.
func chance(seed byte) *rand.ChaCha8 { return rand.NewChaCha8([32]byte{seed}) }

// below returns an integer from 0 to n-1.
func below(r *rand.ChaCha8, n int) int { return int(r.Uint64() % uint64(n)) }

// waiting is a pending store of the model, and whether it has been flushed.
type waiting struct {
	api.Store
	flushed bool
}

// plain is a line of the model.
type plain struct {
	api.Line
	stores []waiting
}

// model is what the chapter's terms say of a memory; instead of marks it has a note at each store.
type model struct {
	lines  []plain
	span   int
	events []api.Event
}

func newModel(base api.Image) *model {
	m := &model{}
	for _, l := range base {
		m.lines = append(m.lines, plain{Line: l})
	}
	return m
}

// copied returns a model that shares nothing.
func (m *model) copied() *model {
	c := &model{span: m.span, events: slices.Clone(m.events)}
	for _, l := range m.lines {
		c.lines = append(c.lines, plain{l.Line, slices.Clone(l.stores)})
	}
	return c
}

// shows returns what a line shows.
func (l plain) shows() [8]int {
	words, _, e := code.Fix(l.Words, l.Code)
	if e != api.OK {
		return [8]int{}
	}
	for _, s := range l.stores {
		words[s.Word] = s.Val
	}
	return words
}

// state returns the state of a line.
func (l plain) state() int {
	state, _, _ := code.Check(l.Words, l.Code)
	return state
}

// settle settles pending stores, one after the other.
func (l *plain) settle(n int) {
	for range n {
		l.Words, l.Code, _ = code.Fix(l.Words, l.Code)
		l.Words[l.stores[0].Word] = l.stores[0].Val
		l.Code = code.Encode(l.Words)
		l.stores = l.stores[1:]
	}
}

// hasLine tells whether there is such a line.
func (m *model) hasLine(line int) bool { return line >= 0 && line <= len(m.lines)-1 }

// inRange tells whether words and a code may be flipped, or stored.
func inRange(words [8]int, code int) bool {
	return slices.Min(words[:]) >= 0 && slices.Max(words[:]) <= 1<<40-1 && code >= 0 && code <= 1023
}

// refuses returns the error of the call that an event is of.
func (m *model) refuses(v api.Event) api.Errno {
	line := v.At
	if v.Kind == api.EvStore || v.Kind == api.EvPublish {
		line = v.At >> 3
	}
	if v.Kind != api.EvFence && !m.hasLine(line) {
		return api.ErrAddress
	}
	switch v.Kind {
	case api.EvStore, api.EvPublish:
		if v.Val < 0 || v.Val > 1<<40-1 {
			return api.ErrArg
		}
		if m.lines[line].state() == api.LineRotten {
			return api.ErrRot
		}
	case api.EvEvict:
		if v.Val < 1 || v.Val > len(m.lines[line].stores) {
			return api.ErrArg
		}
	case api.EvHeal:
		if !inRange(v.Words, 0) {
			return api.ErrArg
		}
	case api.EvRot:
		if !inRange(v.Words, v.Val) {
			return api.ErrArg
		}
		if len(m.lines[line].stores) > 0 {
			return api.ErrState
		}
	}
	return api.OK
}

// do makes the call that an event is of.
func (m *model) do(v api.Event) api.Errno {
	if e := m.refuses(v); e != api.OK {
		return e
	}
	switch v.Kind {
	case api.EvStore, api.EvPublish:
		v.Span = m.span
		l := &m.lines[v.At/8]
		l.stores = append(l.stores, waiting{api.Store{Word: v.At % 8, Val: v.Val}, false})
	case api.EvFlush:
		l := &m.lines[v.At]
		for i := range l.stores {
			l.stores[i].flushed = true
		}
	case api.EvFence:
		for i := range m.lines {
			for len(m.lines[i].stores) > 0 && m.lines[i].stores[0].flushed {
				m.lines[i].settle(1)
			}
		}
	case api.EvEvict:
		m.lines[v.At].settle(v.Val)
	case api.EvHeal:
		m.lines[v.At] = plain{Line: api.Line{Words: v.Words, Code: code.Encode(v.Words)}}
	case api.EvRot:
		l := &m.lines[v.At]
		for k := range l.Words {
			l.Words[k] ^= v.Words[k]
		}
		l.Code ^= v.Val
	}
	m.events = append(m.events, v)
	return api.OK
}

// crash is a power failure.
func (m *model) crash(cuts []api.Cut) api.Errno {
	for i, c := range cuts {
		if i > 0 && cuts[i-1].Line >= c.Line || !m.hasLine(c.Line) || c.Keep < 0 || c.Keep > len(m.lines[c.Line].stores) {
			return api.ErrArg
		}
	}
	for _, c := range cuts {
		m.lines[c.Line].settle(c.Keep)
	}
	for i := range m.lines {
		m.lines[i].stores = nil
	}
	m.span, m.events = 0, nil
	return api.OK
}

// do makes the call that an event is of, on a memory.
func do(m *memory.Memory, v api.Event) api.Errno {
	switch v.Kind {
	case api.EvStore:
		return m.Store(v.At, v.Val)
	case api.EvPublish:
		return m.Publish(v.At, v.Val)
	case api.EvFlush:
		return m.Flush(v.At)
	case api.EvEvict:
		return m.Evict(v.At, v.Val)
	case api.EvHeal:
		return m.Heal(v.At, v.Words)
	case api.EvRot:
		return m.Rot(v.At, v.Words, v.Val)
	}
	m.Fence()
	return api.OK
}

// views are all that can be seen of a memory: now, and, for the marks and the span, behind a fence and a store.
type views struct {
	image, fenced api.Image
	seen          [][8]int
	states        []int
	pending       [][]api.Store
	events        []api.Event
	span          int
}

// look returns the views of a memory.
func look(m *memory.Memory) views {
	v := views{image: m.Image(), seen: m.Seen(), events: append([]api.Event{}, m.Events()...)}
	for i := range m.Lines() {
		v.states = append(v.states, m.State(i))
		v.pending = append(v.pending, append([]api.Store{}, m.Pending(i)...))
	}
	c := m.Copy()
	c.Fence()
	v.fenced = c.Image()
	c.Heal(0, [8]int{})
	c.Store(0, 0)
	if l := c.Events(); len(l) > 0 {
		v.span = l[len(l)-1].Span
	}
	return v
}

// look returns the views of a model.
func (m *model) look() views {
	v := views{events: append([]api.Event{}, m.events...), span: m.span}
	for _, l := range m.lines {
		stores := []api.Store{}
		for _, s := range l.stores {
			stores = append(stores, s.Store)
		}
		v.image = append(v.image, l.Line)
		v.seen = append(v.seen, l.shows())
		v.states = append(v.states, l.state())
		v.pending = append(v.pending, stores)
	}
	c := m.copied()
	c.do(api.Event{Kind: api.EvFence})
	for _, l := range c.lines {
		v.fenced = append(v.fenced, l.Line)
	}
	return v
}

// agree checks that a memory is what the model says, address by address, too.
func agree(t *testing.T, m *memory.Memory, want *model) {
	t.Helper()
	if got, want := look(m), want.look(); !reflect.DeepEqual(got, want) {
		t.Fatalf("the memory is\n%v, not\n%v", got, want)
	}
	n := len(want.lines)
	if m.Lines() != n || m.State(-1) != -1 || m.State(n) != -1 || len(m.Pending(-1)) != 0 || len(m.Pending(n)) != 0 {
		t.Fatalf("%d lines, states %d and %d outside", m.Lines(), m.State(-1), m.State(n))
	}
	for at := -1; at <= 8*n; at++ {
		wantVal, wantErr := 0, api.ErrAddress
		if at >= 0 && at < 8*n {
			wantVal, wantErr = want.lines[at/8].shows()[at%8], api.OK
			if want.lines[at/8].state() == api.LineRotten {
				wantErr = api.ErrRot
			}
		}
		if val, e := m.Load(at); val != wantVal || e != wantErr {
			t.Fatalf("Load(%d) is %d, %d, not %d, %d", at, val, e, wantVal, wantErr)
		}
	}
}

// flips returns words and a code with some bits that are 1.
func flips(r *rand.ChaCha8, n int) (words [8]int, bits int) {
	for range n {
		if i := below(r, 330); i < 320 {
			words[i/40] ^= 1 << (i % 40)
		} else {
			bits ^= 1 << (i - 320)
		}
	}
	return words, bits
}

// anyWord returns a word, and now and then a number that is none.
func anyWord(r *rand.ChaCha8) int {
	odd := []int{-1, api.MaxWord, api.MaxWord + 1, 0}
	if i := below(r, 40); i < len(odd) {
		return odd[i]
	}
	return below(r, 1<<40)
}

// anyEvent returns a call, most often one that is possible.
func anyEvent(r *rand.ChaCha8, m *model) api.Event {
	n := len(m.lines)
	line := below(r, n)
	if below(r, 20) == 0 {
		line = -1 + (n+1)*below(r, 2)
	}
	kinds := []int{api.EvStore, api.EvStore, api.EvStore, api.EvStore, api.EvPublish, api.EvFlush, api.EvFlush, api.EvFence, api.EvEvict, api.EvEvict, api.EvHeal, api.EvRot, api.EvRot}
	v := api.Event{Kind: kinds[below(r, len(kinds))], At: line}
	switch v.Kind {
	case api.EvStore, api.EvPublish:
		v.At, v.Val = 8*line+below(r, 8), anyWord(r)
	case api.EvFence:
		v.At = 0
	case api.EvEvict:
		v.Val = below(r, 4)
		if m.hasLine(line) {
			v.Val = below(r, len(m.lines[line].stores)+3) - 1
		}
	case api.EvHeal:
		v.Words = [8]int{anyWord(r), 7: anyWord(r)}
	case api.EvRot:
		v.Words, v.Val = flips(r, below(r, 4))
		if below(r, 20) == 0 {
			v.Words[below(r, 8)], v.Val = anyWord(r), -1+1025*below(r, 2)
		}
	}
	return v
}

// anyCuts returns cuts, most often such that a failure can have.
func anyCuts(r *rand.ChaCha8, m *model) []api.Cut {
	var cuts []api.Cut
	for i, l := range m.lines {
		if below(r, 2) == 0 {
			cuts = append(cuts, api.Cut{Line: i, Keep: below(r, len(l.stores)+1)})
		}
	}
	if len(cuts) == 0 || below(r, 4) > 0 {
		return cuts
	}
	i := below(r, len(cuts))
	switch below(r, 4) {
	case 0:
		cuts[i].Keep = -1
	case 1:
		cuts[i].Keep = len(m.lines[cuts[i].Line].stores) + 1
	case 2:
		cuts = append(cuts, cuts[i])
	case 3:
		cuts[i].Line = -1 + (len(m.lines)+1)*below(r, 2)
	}
	return cuts
}

// anyImage returns durable lines, also with flipped bits.
func anyImage(r *rand.ChaCha8, n int) api.Image {
	var img api.Image
	for range n {
		l := api.Line{Words: [8]int{below(r, 1<<40), 5: below(r, 9)}}
		words, bits := flips(r, max(0, below(r, 6)-3))
		l.Code = code.Encode(l.Words) ^ bits
		for k := range l.Words {
			l.Words[k] ^= words[k]
		}
		img = append(img, l)
	}
	return img
}
