package order_test

import (
	"math/rand/v2"
	"slices"
	"testing"

	"alum/api"
	"alum/code"
	"alum/memory"
	"alum/trace"
)

// chance returns a source of numbers that are the same in every run.
func chance(seed byte) *rand.ChaCha8 { return rand.NewChaCha8([32]byte{seed}) }

// below returns an integer from 0 to n-1.
func below(r *rand.ChaCha8, n int) int { return int(r.Uint64() % uint64(n)) }

// zeros returns a base of so many lines.
func zeros(lines int) api.Image { return make(api.Image, lines) }

// store and the functions below return events; the values of stores do not matter to this package.
func store(at, span int) api.Event { return api.Event{Kind: api.EvStore, At: at, Val: 1, Span: span} }

func publish(at, span int) api.Event {
	return api.Event{Kind: api.EvPublish, At: at, Val: 2, Span: span}
}

func flush(line int) api.Event { return api.Event{Kind: api.EvFlush, At: line} }

func evict(line, n int) api.Event { return api.Event{Kind: api.EvEvict, At: line, Val: n} }

func heal(line int) api.Event { return api.Event{Kind: api.EvHeal, At: line, Words: [8]int{3}} }

func rot(line int) api.Event { return api.Event{Kind: api.EvRot, At: line, Words: [8]int{1}} }

var fence = api.Event{Kind: api.EvFence}

// isStore tells whether an event is a store.
func isStore(v api.Event) bool { return v.Kind == api.EvStore || v.Kind == api.EvPublish }

// do makes the call that an event is of.
func do(m *memory.Memory, v api.Event) api.Errno {
	switch v.Kind {
	case api.EvStore, api.EvPublish:
		m.Span(v.Span)
		if v.Kind == api.EvStore {
			return m.Store(v.At, v.Val)
		}
		return m.Publish(v.At, v.Val)
	case api.EvFlush:
		return m.Flush(v.At)
	case api.EvEvict:
		return m.Evict(v.At, v.Val)
	case api.EvHeal:
		return m.Heal(v.At, v.Words)
	case api.EvRot:
		return m.Rot(v.At, v.Words, v.Val)
	}
	m.Fence()
	return api.OK
}

// anyEvent returns an event that is often possible.
func anyEvent(r *rand.ChaCha8, lines int, kinds []int) api.Event {
	v := api.Event{Kind: kinds[below(r, len(kinds))], At: below(r, lines)}
	switch v.Kind {
	case api.EvStore, api.EvPublish:
		v.At, v.Val, v.Span = 8*v.At+below(r, 8), below(r, 1<<40), below(r, 3)
	case api.EvFence:
		v.At = 0
	case api.EvEvict:
		v.Val = 1 + below(r, 3)
	case api.EvHeal:
		v.Words = [8]int{below(r, 1<<40), 7: below(r, 1<<40)}
	case api.EvRot:
		v.Words[below(r, 8)] = 1 << below(r, 40)
	}
	return v
}

// someKinds and allKinds are kinds of events without and with those of rot, as often as they are wanted.
var (
	someKinds = []int{api.EvStore, api.EvStore, api.EvStore, api.EvStore, api.EvPublish, api.EvPublish, api.EvFlush, api.EvFlush, api.EvFence, api.EvEvict, api.EvEvict}
	allKinds  = append(slices.Clone(someKinds), api.EvFlush, api.EvHeal, api.EvRot)
)

// anyBase returns a base of clean lines.
func anyBase(r *rand.ChaCha8, lines int) api.Image {
	var base api.Image
	for range lines {
		w := [8]int{below(r, 1<<40), 5: below(r, 9)}
		base = append(base, api.Line{Words: w, Code: code.Encode(w)})
	}
	return base
}

// anyTrace returns a base and a trace of it, which random calls have recorded.
func anyTrace(r *rand.ChaCha8, lines, length int, kinds []int) (api.Image, []api.Event) {
	base := anyBase(r, lines)
	m := memory.From(base)
	for range length {
		do(m, anyEvent(r, lines, kinds))
	}
	return base, m.Events()
}

// fatesOf returns the fates of the events at a point of a trace.
func fatesOf(t *testing.T, base api.Image, l []api.Event, n int) []int {
	t.Helper()
	fates, e := trace.Fates(base, l, n)
	if e != api.OK {
		t.Fatalf("the fates of %v at the point %d have the error %d", l, n, e)
	}
	return fates
}

// published returns the publications of a list of events: of each one, by what the chapter calls its stores.
func published(l []api.Event) []api.Publication {
	var list []api.Publication
	for at, v := range l {
		if v.Kind != api.EvPublish || v.Span == 0 {
			continue
		}
		from := 0
		for i, u := range l[:at] {
			if u.Kind == api.EvPublish && u.Span == v.Span {
				from = i
			}
		}
		p := api.Publication{At: at, Span: v.Span}
		for i := from; i < at; i++ {
			if l[i].Kind == api.EvStore && l[i].Span == v.Span {
				p.Stores = append(p.Stores, i)
			}
		}
		list = append(list, p)
	}
	return list
}

// ahead returns how many pending stores of its line come before the store i.
func ahead(l []api.Event, fates []int, i int) int {
	n := 0
	for j := range i {
		if fates[j] == api.FatePending && l[j].At/8 == l[i].At/8 {
			n++
		}
	}
	return n
}

// keepOf returns how many stores of a line cuts keep.
func keepOf(cuts []api.Cut, line int) int {
	for _, c := range cuts {
		if c.Line == line {
			return c.Keep
		}
	}
	return 0
}

// durableBy tells which of the events are stores that are durable after a failure at the point of these fates.
func durableBy(l []api.Event, fates []int, cuts []api.Cut) []bool {
	durable := make([]bool, len(fates))
	for i, fate := range fates {
		durable[i] = fate == api.FateDurable || fate == api.FatePending && ahead(l, fates, i) < keepOf(cuts, l[i].At/8)
	}
	return durable
}

// exposes returns the first store of a publication that is missing if it is durable itself, or -1.
func exposes(p api.Publication, durable []bool) int {
	if p.At >= len(durable) || !durable[p.At] {
		return -1
	}
	for _, s := range p.Stores {
		if !durable[s] {
			return s
		}
	}
	return -1
}

// exposedBy returns what a failure exposes that leaves these stores.
func exposedBy(l []api.Event, durable []bool, cuts []api.Cut) (api.Exposure, bool) {
	for _, p := range published(l) {
		if s := exposes(p, durable); s >= 0 {
			return api.Exposure{Point: len(durable), Publish: p.At, Store: s, Span: p.Span, Cuts: cuts}, true
		}
	}
	return api.Exposure{}, false
}

// choices returns all cuts of a failure at the point of these fates; each names all lines that have something pending.
func choices(l []api.Event, fates []int) [][]api.Cut {
	list := [][]api.Cut{nil}
	counts := map[int]int{}
	for i, fate := range fates {
		if fate == api.FatePending {
			counts[l[i].At/8]++
		}
	}
	for line := range api.MaxLines {
		if counts[line] == 0 {
			continue
		}
		var longer [][]api.Cut
		for _, cuts := range list {
			for keep := range counts[line] + 1 {
				longer = append(longer, append(slices.Clone(cuts), api.Cut{Line: line, Keep: keep}))
			}
		}
		list = longer
	}
	return list
}

// total returns how many stores cuts keep.
func total(cuts []api.Cut) int {
	n := 0
	for _, c := range cuts {
		n += c.Keep
	}
	return n
}

// kept returns cuts without the lines that keep nothing.
func kept(cuts []api.Cut) []api.Cut {
	return slices.DeleteFunc(slices.Clone(cuts), func(c api.Cut) bool { return c.Keep == 0 })
}

// samePublications, sameExposure and sameRepairs compare results; an empty list may be nil.
func samePublications(a, b []api.Publication) bool {
	return slices.EqualFunc(a, b, func(a, b api.Publication) bool {
		return a.At == b.At && a.Span == b.Span && slices.Equal(a.Stores, b.Stores)
	})
}

func sameExposure(a, b api.Exposure) bool {
	return a.Point == b.Point && a.Publish == b.Publish && a.Store == b.Store && a.Span == b.Span && slices.Equal(a.Cuts, b.Cuts)
}

func sameRepairs(a, b []api.Repair) bool {
	return slices.EqualFunc(a, b, func(a, b api.Repair) bool {
		return a.Publish == b.Publish && a.After == b.After && slices.Equal(a.Lines, b.Lines)
	})
}
