package order_test

import (
	"math"
	"slices"
	"testing"

	"alum/api"
	"alum/memory"
	"alum/order"
	"alum/trace"
)

// list is short for a list of events.
func list(l ...api.Event) []api.Event { return l }

// cut is short for the cuts of one line.
func cut(line, keep int) []api.Cut { return []api.Cut{{Line: line, Keep: keep}} }

// publishes checks the publications of a list of events.
func publishes(t *testing.T, l []api.Event, want ...api.Publication) {
	t.Helper()
	if got := order.Publications(l); !samePublications(got, want) {
		t.Errorf("P6.1: the publications of %v are %v, not %v", l, got, want)
	}
}

// leaves checks which stores are durable after a failure.
func leaves(t *testing.T, base api.Image, l []api.Event, n int, cuts []api.Cut, want ...bool) {
	t.Helper()
	got, e := order.Durable(base, l, n, cuts)
	if e != api.OK || !slices.Equal(got, want) {
		t.Errorf("P6.2: Durable(%v, %d, %v) is %v, %d, not %v", l, n, cuts, got, e, want)
	}
}

// exposing checks what a failure exposes; that is nothing if the publication is -1.
func exposing(t *testing.T, base api.Image, l []api.Event, n int, cuts []api.Cut, publish, store int) {
	t.Helper()
	var want api.Exposure
	if publish >= 0 {
		want = api.Exposure{Point: n, Publish: publish, Store: store, Span: l[publish].Span, Cuts: cuts}
	}
	got, is, e := order.Exposed(base, l, n, cuts)
	if e != api.OK || is != (publish >= 0) || !sameExposure(got, want) {
		t.Errorf("P6.3: Exposed(%v, %d, %v) is %v, %v, %d, not %v", l, n, cuts, got, is, e, want)
	}
}

// refuses checks that a trace is not accepted: the point, the publication, the store, and the only cut.
func refuses(t *testing.T, base api.Image, l []api.Event, point, publish, store, line, keep int) {
	t.Helper()
	want := api.Exposure{Point: point, Publish: publish, Store: store, Span: l[publish].Span, Cuts: cut(line, keep)}
	if got, is, e := order.Check(base, l); e != api.OK || !is || !sameExposure(got, want) {
		t.Errorf("P6.4: Check(%v) is %v, %v, %d, not %v", l, got, is, e, want)
	}
}

// accepts checks that a trace is accepted, has no points, needs no repairs, and is not changed.
func accepts(t *testing.T, base api.Image, l []api.Event) {
	t.Helper()
	if got, is, e := order.Check(base, l); e != api.OK || is || !sameExposure(got, api.Exposure{}) {
		t.Errorf("P6.4: Check(%v) is %v, %v, %d", l, got, is, e)
	}
	at(t, base, l)
	needs(t, base, l)
	mends(t, base, l, l)
}

// at checks the points.
func at(t *testing.T, base api.Image, l []api.Event, want ...int) {
	t.Helper()
	if got, e := order.Points(base, l); e != api.OK || !slices.Equal(got, want) {
		t.Errorf("P6.5: Points(%v) is %v, %d, not %v", l, got, e, want)
	}
}

// needs checks the repairs.
func needs(t *testing.T, base api.Image, l []api.Event, want ...api.Repair) {
	t.Helper()
	if got, e := order.Repairs(base, l); e != api.OK || !sameRepairs(got, want) {
		t.Errorf("P6.6: Repairs(%v) is %v, %d, not %v", l, got, e, want)
	}
}

// mends checks what is made of a list.
func mends(t *testing.T, base api.Image, l, want []api.Event) {
	t.Helper()
	if got, e := order.Mend(base, l); e != api.OK || !slices.Equal(got, want) {
		t.Errorf("P6.7: Mend(%v) is\n%v, %d, not\n%v", l, got, e, want)
	}
}

// fails checks the errors of all calls: that of Durable and Exposed, and that of the others.
func fails(t *testing.T, base api.Image, l []api.Event, n int, cuts []api.Cut, one, all api.Errno) {
	t.Helper()
	durable, e := order.Durable(base, l, n, cuts)
	if e != one || one != api.OK && durable != nil {
		t.Errorf("P6.2: Durable(%d lines, %v, %d, %v) is %v, %d, not the error %d", len(base), l, n, cuts, durable, e, one)
	}
	x, is, e := order.Exposed(base, l, n, cuts)
	if e != one || one != api.OK && (is || !sameExposure(x, api.Exposure{}) || x.Cuts != nil) {
		t.Errorf("P6.3: Exposed(%d lines, %v, %d, %v) is %v, %v, %d, not the error %d", len(base), l, n, cuts, x, is, e, one)
	}
	x, is, e = order.Check(base, l)
	if e != all || all != api.OK && (is || !sameExposure(x, api.Exposure{}) || x.Cuts != nil) {
		t.Errorf("P6.4: Check(%d lines, %v) is %v, %v, %d, not the error %d", len(base), l, x, is, e, all)
	}
	points, e := order.Points(base, l)
	if e != all || all != api.OK && points != nil {
		t.Errorf("P6.5: Points(%d lines, %v) is %v, %d, not the error %d", len(base), l, points, e, all)
	}
	repairs, e := order.Repairs(base, l)
	if e != all || all != api.OK && repairs != nil {
		t.Errorf("P6.6: Repairs(%d lines, %v) is %v, %d, not the error %d", len(base), l, repairs, e, all)
	}
	mended, e := order.Mend(base, l)
	if e != all || all != api.OK && mended != nil {
		t.Errorf("P6.7: Mend(%d lines, %v) is %v, %d, not the error %d", len(base), l, mended, e, all)
	}
}

// TestExamples checks the table of the chapter.
func TestExamples(t *testing.T) {
	base := memory.New(3).Image()
	l, lines, e := trace.Parse("store 0 1 5\nstore 9 2 5\nflush 0\npublish 16 3 5\nflush 1\nfence\npublish 17 4 5\n")
	if e != api.OK || lines != 7 {
		t.Fatal("the text of the example is not read")
	}
	publishes(t, l, api.Publication{At: 3, Span: 5, Stores: []int{0, 1}}, api.Publication{At: 6, Span: 5})
	refuses(t, base, l, 4, 3, 0, 2, 1)
	at(t, base, l, 4, 5)
	needs(t, base, l, api.Repair{Publish: 3, After: 2, Lines: []int{0, 1}})
	mends(t, base, l, slices.Insert(slices.Clone(l), 2, flush(0), flush(1), fence))
	exposing(t, base, l, 4, []api.Cut{{Line: 0, Keep: 1}, {Line: 1, Keep: 1}, {Line: 2, Keep: 1}}, -1, 0)
}

func TestP61Publications(t *testing.T) {
	publishes(t, nil)
	publishes(t, list(store(0, 1), store(8, 2), fence, flush(1)))
	publishes(t, list(publish(0, 0), store(1, 0), publish(2, 0)))
	publishes(t, list(publish(0, 7)), api.Publication{At: 0, Span: 7})
	// Stores behind a publication belong to the next one of their span; a publishing store is nobody's store.
	publishes(t, list(store(0, 1), store(8, 2), store(0, 1), publish(16, 1), store(9, 1), publish(16, 2), publish(17, 1), publish(18, 1), store(7, 1)),
		api.Publication{At: 3, Span: 1, Stores: []int{0, 2}}, api.Publication{At: 5, Span: 2, Stores: []int{1}},
		api.Publication{At: 6, Span: 1, Stores: []int{4}}, api.Publication{At: 7, Span: 1})
	// All lists are read, whatever their addresses, values, spans and kinds are.
	for _, span := range []int{-1, math.MinInt, math.MaxInt, api.MaxWord + 1} {
		publishes(t, list(store(-5, span), store(math.MinInt, 1), api.Event{Kind: api.EvStore, Val: -1, Span: span, Words: [8]int{9}}, publish(math.MaxInt, span), publish(-1, 1)),
			api.Publication{At: 3, Span: span, Stores: []int{0, 2}}, api.Publication{At: 4, Span: 1, Stores: []int{1}})
	}
	for _, kind := range []int{0, -1, 8, api.EvFlush, api.EvFence, api.EvEvict, api.EvHeal, api.EvRot, math.MinInt, math.MaxInt} {
		publishes(t, list(api.Event{Kind: kind, Span: 3}, publish(0, 3)), api.Publication{At: 1, Span: 3})
	}
}

// TestP61Any compares the publications of lists that are mostly no traces.
func TestP61Any(t *testing.T) {
	r := chance(61)
	spans := []int{0, 1, 2, -1, math.MinInt, math.MaxInt}
	for range 2000 {
		var l []api.Event
		for range below(r, 30) {
			l = append(l, api.Event{Kind: below(r, 4), At: below(r, 90) - 9, Val: below(r, 3) - 1, Span: spans[below(r, len(spans))]})
		}
		publishes(t, l, published(l)...)
	}
}

func TestP62Durable(t *testing.T) {
	base := zeros(3)
	leaves(t, base, nil, 0, nil)
	// 0 is settled by a fence, 4 by an eviction, 8 is lost; 7 and 9 are pending on the line 0, 10 on the line 1.
	l := list(store(0, 1), flush(0), fence, fence, store(8, 1), evict(1, 1), store(16, 1), publish(1, 1), store(17, 0), publish(2, 0), store(9, 1), heal(2), flush(0))
	y, n := true, false
	leaves(t, base, l, 1, nil, n)
	leaves(t, base, l, 1, cut(0, 0), n)
	leaves(t, base, l, 1, cut(0, 1), y)
	leaves(t, base, l, 2, nil, n, n)
	leaves(t, base, l, 3, nil, y, n, n)
	leaves(t, base, l, 5, nil, y, n, n, n, n)
	leaves(t, base, l, 6, nil, y, n, n, n, y, n)
	leaves(t, base, l, 9, cut(2, 1), y, n, n, n, y, n, y, n, n)
	leaves(t, base, l, 9, cut(2, 2), y, n, n, n, y, n, y, n, y)
	leaves(t, base, l, 12, cut(2, 0), y, n, n, n, y, n, n, n, n, n, n, n)
	leaves(t, base, l, 13, nil, y, n, n, n, y, n, n, n, n, n, n, n, n)
	leaves(t, base, l, 13, cut(0, 1), y, n, n, n, y, n, n, y, n, n, n, n, n)
	leaves(t, base, l, 13, []api.Cut{{Line: 0, Keep: 2}, {Line: 1, Keep: 1}}, y, n, n, n, y, n, n, y, n, y, y, n, n)
	// Of three stores to a line one is flushed, and two are evicted.
	l = list(store(0, 1), flush(0), store(1, 1), store(2, 1), fence, evict(0, 1))
	leaves(t, base, l, 5, nil, y, n, n, n, n)
	leaves(t, base, l, 5, cut(0, 1), y, n, y, n, n)
	leaves(t, base, l, 6, nil, y, n, y, n, n, n)
	leaves(t, base, l, 6, cut(0, 1), y, n, y, y, n, n)
}

// TestP62Errors checks that the errors of Durable and Exposed are those of trace.Image, and that the other calls look at the whole list.
func TestP62Errors(t *testing.T) {
	good := list(store(0, 1), store(8, 1), flush(0), publish(16, 1), fence)
	wrong := list(store(0, 1), store(8, 1), evict(2, 1), publish(16, 1), fence)
	const ok, arg, form = api.OK, api.ErrArg, api.ErrForm
	for _, n := range []int{-1, len(good) + 1, math.MinInt, math.MaxInt} {
		fails(t, zeros(3), good, n, nil, arg, ok)
		fails(t, zeros(3), wrong, n, nil, arg, form)
	}
	for n := range len(good) + 1 {
		fails(t, zeros(3), good, n, nil, ok, ok)
	}
	fails(t, zeros(3), nil, 0, nil, ok, ok)
	fails(t, zeros(3), nil, 1, nil, arg, ok)
	// What is wrong behind the point is not seen, unless the whole list is looked at.
	fails(t, zeros(3), wrong, 2, nil, ok, form)
	fails(t, zeros(3), wrong, 3, nil, form, form)
	fails(t, zeros(3), wrong, 5, nil, form, form)
	for place := range len(good) {
		for _, v := range []api.Event{{}, {Kind: 8}, {Kind: -1}, store(24, 1), store(0, -1), store(-1, 1), publish(24, 1), flush(3), flush(-1), evict(1, 9), evict(2, 0), {Kind: api.EvFence, At: 1}, heal(3)} {
			l := slices.Insert(slices.Clone(good), place, v)
			fails(t, zeros(3), l, place, nil, ok, form)
			fails(t, zeros(3), l, place+1, nil, form, form)
			fails(t, zeros(3), l, len(l), nil, form, form)
			fails(t, zeros(3), append(slices.Clone(good), v), len(good), nil, ok, form)
		}
	}
	for _, cuts := range [][]api.Cut{cut(0, 2), cut(0, -1), cut(1, 2), cut(2, 2), cut(3, 0), cut(-1, 0), {{Line: 0, Keep: 0}, {Line: 0, Keep: 0}}, {{Line: 1}, {Line: 0}}, cut(0, math.MaxInt), cut(0, math.MinInt)} {
		fails(t, zeros(3), good, 4, cuts, arg, ok)
		fails(t, zeros(3), wrong, 2, cuts, arg, form)
		// A list that is no trace comes before cuts that are refused.
		fails(t, zeros(3), wrong, 3, cuts, form, form)
	}
	for _, cuts := range [][]api.Cut{nil, {}, cut(0, 0), cut(0, 1), cut(2, 0), {{Line: 0, Keep: 1}, {Line: 1, Keep: 1}, {Line: 2, Keep: 1}}} {
		fails(t, zeros(3), good, 4, cuts, ok, ok)
	}
	// On the line 0 nothing is pending behind the fence.
	fails(t, zeros(3), good, 5, cut(0, 1), arg, ok)
	fails(t, zeros(3), good, 5, cut(1, 1), ok, ok)
}

// TestP62Bases checks that lists without a base are refused first.
func TestP62Bases(t *testing.T) {
	l, wrong := list(store(0, 1)), list(flush(-1))
	for _, base := range []api.Image{nil, {}, zeros(api.MaxLines + 1), {{Words: [8]int{-1}}}, {{Words: [8]int{7: api.MaxWord + 1}}}, {{Code: 1024}}, {{}, {Code: -1}}} {
		fails(t, base, l, 0, nil, api.ErrArg, api.ErrArg)
		fails(t, base, l, 1, nil, api.ErrArg, api.ErrArg)
		fails(t, base, nil, 0, nil, api.ErrArg, api.ErrArg)
		fails(t, base, wrong, 1, nil, api.ErrArg, api.ErrArg)
		fails(t, base, wrong, 3, cut(9, 9), api.ErrArg, api.ErrArg)
	}
	fails(t, zeros(api.MaxLines), l, 1, nil, api.OK, api.OK)
	// The line is rotten, so nothing is stored there; but a base it is.
	rotten := api.Image{{Words: [8]int{3}, Code: 0}}
	fails(t, rotten, l, 1, nil, api.ErrForm, api.ErrForm)
	fails(t, rotten, list(heal(0), store(0, 1)), 2, nil, api.OK, api.OK)
}

func TestP63Exposed(t *testing.T) {
	base := zeros(4)
	l := list(store(0, 3), store(8, 3), publish(16, 3), store(1, 3), store(24, 4), publish(25, 4), publish(17, 3))
	exposing(t, base, nil, 0, nil, -1, 0)
	exposing(t, base, l, 2, nil, -1, 0)
	exposing(t, base, l, 3, nil, -1, 0)
	exposing(t, base, l, 3, cut(0, 1), -1, 0)
	exposing(t, base, l, 3, cut(2, 1), 2, 0)
	exposing(t, base, l, 3, []api.Cut{{Line: 0, Keep: 1}, {Line: 1, Keep: 0}, {Line: 2, Keep: 1}, {Line: 3, Keep: 0}}, 2, 1)
	exposing(t, base, l, 3, []api.Cut{{Line: 0, Keep: 1}, {Line: 1, Keep: 1}, {Line: 2, Keep: 1}}, -1, 0)
	// A store behind the publication is not missing; of the next publication it is.
	exposing(t, base, l, 7, []api.Cut{{Line: 0, Keep: 1}, {Line: 1, Keep: 1}, {Line: 2, Keep: 1}}, -1, 0)
	exposing(t, base, l, 7, []api.Cut{{Line: 0, Keep: 1}, {Line: 1, Keep: 1}, {Line: 2, Keep: 2}}, 6, 3)
	// Both are exposed: the first one is named, even if that is not the one whose store is missing first.
	exposing(t, base, l, 7, cut(2, 2), 2, 0)
	exposing(t, base, l, 7, []api.Cut{{Line: 1, Keep: 1}, {Line: 2, Keep: 2}}, 2, 0)
	// The store is on the line of the publication.
	exposing(t, base, l, 7, cut(3, 2), -1, 0)
	// A store that is lost is missing, however it is cut.
	l = list(store(0, 1), publish(8, 1), heal(0), evict(1, 1))
	exposing(t, base, l, 2, []api.Cut{{Line: 0, Keep: 1}, {Line: 1, Keep: 1}}, -1, 0)
	exposing(t, base, l, 3, cut(1, 0), -1, 0)
	exposing(t, base, l, 3, cut(1, 1), 1, 0)
	exposing(t, base, l, 4, nil, 1, 0)
	// A publication that is lost is not exposed.
	exposing(t, base, list(store(0, 1), publish(8, 1), heal(1)), 3, nil, -1, 0)
	// The span 0 publishes nothing.
	exposing(t, base, list(store(0, 0), publish(8, 0)), 2, cut(1, 1), -1, 0)
	exposing(t, base, list(store(0, math.MaxInt), publish(8, math.MaxInt)), 2, cut(1, 1), 1, 0)
}

func TestP64Check(t *testing.T) {
	base := zeros(4)
	accepts(t, base, nil)
	accepts(t, base, list(store(0, 1), flush(0), fence, publish(8, 1)))
	accepts(t, base, list(store(0, 1), evict(0, 1), publish(8, 1)))
	accepts(t, base, list(store(0, 1), publish(1, 1)))
	accepts(t, base, list(store(0, 1), store(8, 0), publish(1, 1), publish(9, 0)))
	accepts(t, base, list(store(0, 2), publish(8, 1), publish(8, 1)))
	accepts(t, base, list(store(0, 0), publish(8, 0)))
	accepts(t, base, list(publish(8, 1), store(0, 1)))
	// On its own line and on another one, which is durable; the own line has been healed before, which loses nothing.
	accepts(t, base, list(store(0, 1), heal(1), evict(0, 1), store(8, 1), publish(9, 1), rot(2)))
	refuses(t, base, list(store(0, 1), fence, publish(8, 1)), 3, 2, 0, 1, 1)
	// A flush is not enough, nor a fence before it, nor a flush before the store.
	refuses(t, base, list(store(0, 1), flush(0), publish(8, 1), fence), 3, 2, 0, 1, 1)
	refuses(t, base, list(flush(0), store(0, 1), fence, publish(8, 1)), 4, 3, 1, 1, 1)
	refuses(t, base, list(store(0, 1), fence, flush(0), publish(8, 1)), 4, 3, 0, 1, 1)
	// A fence takes what was flushed only, and an eviction the first stores only.
	refuses(t, base, list(store(0, 1), flush(0), store(1, 1), fence, publish(8, 1)), 5, 4, 2, 1, 1)
	refuses(t, base, list(store(0, 1), store(1, 1), evict(0, 1), publish(8, 1)), 4, 3, 1, 1, 1)
	// A flush with a heal behind it is forgotten.
	refuses(t, base, list(store(1, 0), flush(0), heal(0), store(0, 1), fence, publish(8, 1)), 6, 5, 3, 1, 1)
	// After an eviction of what was flushed the next store is not flushed.
	refuses(t, base, list(store(1, 0), flush(0), evict(0, 1), store(0, 1), fence, publish(8, 1)), 6, 5, 3, 1, 1)
	// The cut keeps what is pending before the publishing store on its line: the stores 1 and 2, but not the store 0.
	refuses(t, base, list(store(24, 2), store(25, 0), publish(26, 0), store(0, 1), evict(3, 1), publish(27, 1)), 6, 5, 3, 3, 3)
	// The first missing store is named, not that of the own line.
	refuses(t, base, list(store(8, 1), store(16, 1), store(0, 1), publish(9, 1)), 4, 3, 1, 1, 2)
	// A lost store on the own line, and on another one.
	refuses(t, base, list(store(8, 1), heal(1), store(9, 0), publish(10, 1)), 4, 3, 0, 1, 2)
	refuses(t, base, list(store(0, 1), heal(0), publish(8, 1)), 3, 2, 0, 1, 1)
	// The second publication is the one that is exposed first; the first one has no store.
	refuses(t, base, list(publish(8, 1), store(0, 1), publish(9, 1), publish(10, 1)), 3, 2, 1, 1, 2)
	// Before the heal the store is pending, and after it the publication is lost.
	refuses(t, base, list(store(0, 1), publish(8, 1), heal(1)), 2, 1, 0, 1, 1)
}

func TestP65Points(t *testing.T) {
	base := zeros(4)
	// Until the store is durable; until the end; until the publication is lost, even if the store has been lost.
	at(t, base, list(store(0, 1), publish(8, 1), flush(0), flush(1), fence, fence), 2, 3, 4)
	at(t, base, list(store(0, 1), publish(8, 1), evict(1, 1), store(0, 1), evict(0, 1), store(0, 1)), 2, 3, 4)
	at(t, base, list(store(0, 1), publish(8, 1), fence), 2, 3)
	at(t, base, list(store(0, 1), publish(8, 1), heal(1), fence), 2)
	at(t, base, list(store(0, 1), publish(8, 1), heal(0), fence, heal(1), fence), 2, 3, 4)
	at(t, base, list(store(0, 1), publish(8, 1), heal(0), fence, evict(1, 1), heal(1)), 2, 3, 4, 5, 6)
	// The last store counts, and stores on the own line do not, but one that was lost.
	at(t, base, list(store(0, 1), store(16, 1), store(8, 1), publish(8, 1), evict(2, 1), evict(0, 1), fence), 4, 5)
	at(t, base, list(store(8, 1), heal(1), publish(8, 1), fence, heal(1)), 3, 4)
	at(t, base, list(store(8, 1), store(0, 1), publish(9, 1), evict(0, 1), heal(1), fence), 3)
	// Two publications: at points of their own, at the same ones, and one within the other.
	at(t, base, list(store(0, 1), publish(8, 1), evict(0, 1), store(0, 2), fence, publish(8, 2), evict(0, 1), fence), 2, 6)
	at(t, base, list(store(0, 1), publish(8, 1), store(16, 2), publish(8, 2), evict(0, 1), fence, evict(2, 1), fence), 2, 3, 4, 5, 6)
	at(t, base, list(store(0, 1), publish(8, 1), store(16, 2), publish(8, 2), evict(2, 1), fence, evict(0, 1), fence), 2, 3, 4, 5, 6)
	at(t, base, list(store(0, 1), publish(8, 1), evict(0, 1), store(16, 1), publish(8, 1), evict(2, 1)), 2, 5)
}

func TestP66Repairs(t *testing.T) {
	base := zeros(4)
	// Lines in ascending order, each once; the place is that after the last late store.
	needs(t, base, list(store(16, 1), store(0, 1), store(1, 1), store(17, 1), store(2, 2), publish(8, 1)),
		api.Repair{Publish: 5, After: 4, Lines: []int{0, 2}})
	// Stores on the own line, durable ones and those of other spans are not late.
	needs(t, base, list(store(24, 1), evict(3, 1), store(0, 1), store(8, 1), store(16, 2), publish(9, 1)),
		api.Repair{Publish: 5, After: 3, Lines: []int{0}})
	needs(t, base, list(store(0, 1), flush(0), store(0, 1), fence, publish(8, 1)),
		api.Repair{Publish: 4, After: 3, Lines: []int{0}})
	// Nothing helps if a store has been lost, on whatever line, the first or the last one.
	needs(t, base, list(store(0, 1), heal(0), store(16, 1), publish(8, 1)), api.Repair{Publish: 3, After: -1})
	needs(t, base, list(store(16, 1), store(0, 1), heal(0), publish(8, 1)), api.Repair{Publish: 3, After: -1})
	needs(t, base, list(store(8, 1), heal(1), publish(8, 1)), api.Repair{Publish: 2, After: -1})
	// What is lost, durable or healed behind the publication does not matter.
	needs(t, base, list(store(0, 1), publish(8, 1), heal(0)), api.Repair{Publish: 1, After: 1, Lines: []int{0}})
	needs(t, base, list(store(0, 1), publish(8, 1), evict(0, 1)), api.Repair{Publish: 1, After: 1, Lines: []int{0}})
	needs(t, base, list(store(0, 1), publish(8, 1), heal(1)), api.Repair{Publish: 1, After: 1, Lines: []int{0}})
	// In the order of the publications, not of the places.
	needs(t, base, list(store(0, 1), store(16, 2), publish(8, 2), publish(8, 1), publish(8, 1), store(0, 3), heal(0), publish(9, 3)),
		api.Repair{Publish: 2, After: 2, Lines: []int{2}}, api.Repair{Publish: 3, After: 1, Lines: []int{0}}, api.Repair{Publish: 7, After: -1})
}

func TestP67Mend(t *testing.T) {
	base := zeros(4)
	// Two repairs name the same line, at places of their own.
	mends(t, base, list(store(16, 1), store(0, 1), store(1, 2), publish(8, 1), publish(9, 2)),
		list(store(16, 1), store(0, 1), flush(0), flush(2), fence, store(1, 2), flush(0), fence, publish(8, 1), publish(9, 2)))
	// Evictions: the first one is of both stores, the second one becomes one of a store, the third one is left out.
	mends(t, base, list(store(0, 1), store(1, 0), evict(0, 1), publish(8, 1)), list(store(0, 1), store(1, 0), evict(0, 1), publish(8, 1)))
	mends(t, base, list(store(0, 1), publish(8, 1), store(1, 0), store(2, 0), evict(0, 2), evict(0, 1)),
		list(store(0, 1), flush(0), fence, publish(8, 1), store(1, 0), store(2, 0), evict(0, 2)))
	mends(t, base, list(store(0, 1), publish(8, 1), store(1, 0), evict(0, 2), evict(1, 1)),
		list(store(0, 1), flush(0), fence, publish(8, 1), store(1, 0), evict(0, 1), evict(1, 1)))
	mends(t, base, list(store(0, 1), publish(8, 1), evict(0, 1), store(0, 0), evict(0, 1)),
		list(store(0, 1), flush(0), fence, publish(8, 1), store(0, 0), evict(0, 1)))
	// The new fence makes durable what was flushed before on other lines, too: their eviction is left out.
	mends(t, base, list(store(16, 0), flush(2), store(17, 0), store(0, 1), evict(2, 2), publish(8, 1)),
		list(store(16, 0), flush(2), store(17, 0), store(0, 1), flush(0), fence, evict(2, 1), publish(8, 1)))
	// A publishing store is made durable early by the repair of another publication.
	mends(t, base, list(store(0, 1), publish(8, 1), store(9, 2), publish(16, 2), evict(1, 2)),
		list(store(0, 1), flush(0), fence, publish(8, 1), store(9, 2), flush(1), fence, publish(16, 2)))
	// What cannot be repaired is left as it is, and does not prevent another repair.
	lost := list(store(8, 1), heal(1), publish(8, 1), store(9, 1), heal(1), publish(16, 1))
	mends(t, base, lost, lost)
	mends(t, base, append(slices.Clone(lost), store(0, 2), publish(8, 2)), append(slices.Clone(lost), store(0, 2), flush(0), fence, publish(8, 2)))
	// The event behind a late store is its own publication, at the end of the list.
	mends(t, base, list(store(0, 1), publish(8, 1)), list(store(0, 1), flush(0), fence, publish(8, 1)))
}

// TestArguments checks that no call changes what it is given, and that results share no memory with it.
func TestArguments(t *testing.T) {
	base, l := zeros(4), list(store(16, 1), store(0, 1), store(1, 1), publish(8, 1), store(8, 0), evict(0, 1), flush(0), fence)
	cuts := []api.Cut{{Line: 0, Keep: 1}, {Line: 1, Keep: 2}, {Line: 2, Keep: 0}}
	oldBase, oldList, oldCuts := slices.Clone(base), slices.Clone(l), slices.Clone(cuts)
	publications := order.Publications(l)
	publications[0].Stores[0] = 99
	durable, _ := order.Durable(base, l, 5, cuts[:2])
	durable[0] = true
	x, is, e := order.Exposed(base, l, 5, cuts)
	if e != api.OK || !is {
		t.Fatal("P6.3: nothing is exposed")
	}
	x.Cuts[0].Keep = 99
	y, _, _ := order.Check(base, l)
	y.Cuts[0].Keep = 99
	order.Points(base, l)
	repairs, _ := order.Repairs(base, l)
	repairs[0].Lines[0] = 99
	mended, _ := order.Mend(base, l)
	clear(mended)
	same, _ := order.Mend(base, l[:3])
	clear(same)
	if !slices.Equal(base, oldBase) || !slices.Equal(l, oldList) || !slices.Equal(cuts, oldCuts) {
		t.Errorf("the base, the events or the cuts have changed: %v, %v, %v", base, l, cuts)
	}
	publishes(t, l, api.Publication{At: 3, Span: 1, Stores: []int{0, 1, 2}})
	refuses(t, base, l, 4, 3, 0, 1, 1)
}
