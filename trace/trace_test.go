package trace_test

import (
	"math"
	"reflect"
	"slices"
	"testing"

	"alum/api"
	"alum/memory"
	"alum/trace"
)

// busy returns a base and a trace of it: on the line 0 are the words 7, on the line 1 are four pending stores, two of which have been flushed, the line 2 is rotten, and of the line 3 a bit is flipped.
func busy() (api.Image, []api.Event) {
	base := api.Image{withCode(full(7)), {}, {Words: word(0, 3)}, {Words: word(5, 4)}}
	return base, []api.Event{
		{Kind: api.EvStore, At: 8, Val: 1, Span: 5},
		{Kind: api.EvPublish, At: 9, Val: 2, Span: 6},
		{Kind: api.EvFlush, At: 1},
		{Kind: api.EvStore, At: 10, Val: 3, Span: 5},
		{Kind: api.EvStore, At: 8, Val: 4, Span: 8},
	}
}

// long returns a base and a trace of it that has events of all kinds, and leaves one store on the line 3 and two on the line 0 pending.
func long() (api.Image, []api.Event) {
	base, l := busy()
	return base, append(l,
		api.Event{Kind: api.EvEvict, At: 1, Val: 1},
		api.Event{Kind: api.EvFence},
		api.Event{Kind: api.EvHeal, At: 1, Words: full(9)},
		api.Event{Kind: api.EvRot, At: 1, Val: 512, Words: word(2, 1)},
		api.Event{Kind: api.EvStore, At: 31, Val: api.MaxWord, Span: 2},
		api.Event{Kind: api.EvStore, At: 0, Val: 10, Span: 2},
		api.Event{Kind: api.EvStore, At: 1, Val: 11, Span: math.MaxInt},
	)
}

// put returns a list with further events at a place.
func put(l []api.Event, place int, more ...api.Event) []api.Event {
	return slices.Concat(l[:place], more, l[place:])
}

// checks checks the results of Check, and whether Replay has the same error.
func checks(t *testing.T, base api.Image, l []api.Event, wantPlace int, want api.Errno) {
	t.Helper()
	if n, e := trace.Check(base, l); n != wantPlace || e != want {
		t.Errorf("P5.1: Check of %v is %d, %d, not %d, %d", l, n, e, wantPlace, want)
	}
	if m, e := trace.Replay(base, l); e != want || (m != nil) != (want == api.OK) {
		t.Errorf("P5.2: Replay of %v has the error %d, not %d", l, e, want)
	}
}

// fails checks the errors of the functions of a point, that of Image apart, and that with an error all other results are zero.
func fails(t *testing.T, base api.Image, l []api.Event, n int, cuts []api.Cut, want, wantImage api.Errno) {
	t.Helper()
	total, e1 := trace.Cuts(base, l, n)
	choice, e2 := trace.Choice(base, l, n, 1)
	fates, e3 := trace.Fates(base, l, n)
	img, e4 := trace.Image(base, l, n, cuts)
	if e1 != want || e2 != want || e3 != want || e4 != wantImage {
		t.Errorf("at the point %d of %v the errors are %d, %d, %d and %d, not %d and %d", n, l, e1, e2, e3, e4, want, wantImage)
	}
	if want != api.OK && (total != 0 || len(choice) != 0 || len(fates) != 0) || wantImage != api.OK && len(img) != 0 {
		t.Errorf("at the point %d the results are %d, %v, %v and %v, with an error", n, total, choice, fates, img)
	}
}

// fitting are events that can follow those of busy.
func fitting() []api.Event {
	l := []api.Event{
		{Kind: api.EvFlush}, {Kind: api.EvFlush, At: 1}, {Kind: api.EvFlush, At: 2}, {Kind: api.EvFlush, At: 3},
		{Kind: api.EvFence},
		{Kind: api.EvEvict, At: 1, Val: 1}, {Kind: api.EvEvict, At: 1, Val: 3}, {Kind: api.EvEvict, At: 1, Val: 4},
		{Kind: api.EvHeal}, {Kind: api.EvHeal, At: 1, Words: full(1)},
		{Kind: api.EvHeal, At: 2, Words: full(api.MaxWord)}, {Kind: api.EvHeal, At: 3, Words: word(7, 8)},
		{Kind: api.EvRot}, {Kind: api.EvRot, At: 2, Val: 1023, Words: full(api.MaxWord)}, {Kind: api.EvRot, At: 3, Val: 1, Words: word(1, 2)},
	}
	for _, kind := range []int{api.EvStore, api.EvPublish} {
		for _, at := range []int{0, 7, 8, 15, 24, 31} {
			l = append(l, api.Event{Kind: kind, At: at}, api.Event{Kind: kind, At: at, Val: 1, Span: 1}, api.Event{Kind: kind, At: at, Val: api.MaxWord, Span: math.MaxInt})
		}
	}
	return l
}

// wrongNumbers are, for a kind, numbers that the fields of no event of that kind have behind those of busy.
func wrongNumbers(kind int) (at, val, span, words []int) {
	least, most := math.MinInt, math.MaxInt
	unnamed, notWord := []int{1, -1, api.MaxWord, least, most}, []int{-1, api.MaxWord + 1, least, most}
	notLine := []int{-1, 4, 5, 32, least, most}
	switch kind {
	case api.EvStore, api.EvPublish:
		// The addresses from 16 to 23 are those of a rotten line.
		return []int{-1, -8, 32, 33, 16, 23, least, most}, notWord, []int{-1, least}, unnamed
	case api.EvFlush:
		return notLine, unnamed, unnamed, unnamed
	case api.EvFence:
		return unnamed, unnamed, unnamed, unnamed
	case api.EvEvict:
		return append(notLine, 0, 2, 3), []int{0, -1, 5, least, most}, unnamed, unnamed
	case api.EvHeal:
		return notLine, unnamed, unnamed, notWord
	}
	return append(notLine, 1), []int{-1, 1024, least, most}, unnamed, notWord
}

// wrong are events that cannot follow those of busy: events of no kind, and fitting ones in which one field is changed.
func wrong() []api.Event {
	var l []api.Event
	for _, kind := range []int{0, -1, 8, 9, math.MinInt, math.MaxInt} {
		l = append(l, api.Event{Kind: kind}, api.Event{Kind: kind, At: 1, Val: 1, Span: 1})
	}
	for _, v := range fitting() {
		at, val, span, words := wrongNumbers(v.Kind)
		for _, n := range at {
			l = append(l, api.Event{Kind: v.Kind, At: n, Val: v.Val, Span: v.Span, Words: v.Words})
		}
		for _, n := range val {
			l = append(l, api.Event{Kind: v.Kind, At: v.At, Val: n, Span: v.Span, Words: v.Words})
		}
		for _, n := range span {
			l = append(l, api.Event{Kind: v.Kind, At: v.At, Val: v.Val, Span: n, Words: v.Words})
		}
		for _, n := range words {
			for k := range 8 {
				w := v
				w.Words[k] = n
				l = append(l, w)
			}
		}
	}
	return l
}

func TestP51Fields(t *testing.T) {
	base, l := busy()
	checks(t, base, l, 5, api.OK)
	for _, v := range fitting() {
		checks(t, base, put(l, 5, v), 6, api.OK)
	}
	list := wrong()
	for _, v := range list {
		checks(t, base, put(l, 5, v), 5, api.ErrForm)
		checks(t, base, put(l, 5, v, api.Event{Kind: api.EvFence}), 5, api.ErrForm)
	}
	if len(list) < 2000 {
		t.Errorf("P5.1: only %d events are wrong", len(list))
	}
}

// strays are events that fit nowhere: of the first one there is no call, of the second one it fails, and of the others it records another event.
var strays = []api.Event{{Kind: 8}, {Kind: api.EvStore, At: -1}, {Kind: api.EvFlush, Span: 1}, {Kind: api.EvFence, Val: 1}, {Kind: api.EvStore, Span: -1}, {Kind: api.EvRot, Span: 1, At: 2}}

func TestP51Places(t *testing.T) {
	base, l := long()
	checks(t, base, l, len(l), api.OK)
	checks(t, base, nil, 0, api.OK)
	checks(t, base, []api.Event{}, 0, api.OK)
	for _, v := range strays {
		for i := range len(l) + 1 {
			one := put(l, i, v)
			checks(t, base, one, i, api.ErrForm)
			for j := i + 1; j <= len(one); j++ {
				for _, w := range strays {
					checks(t, base, put(one, j, w), i, api.ErrForm)
				}
			}
		}
	}
}

// TestP51Memory has events that fit only where they are, because of those before them.
func TestP51Memory(t *testing.T) {
	base := make(api.Image, 2)
	store, evict, flush, fence := api.Event{Kind: api.EvStore, At: 8, Val: 1}, api.Event{Kind: api.EvEvict, At: 1, Val: 1}, api.Event{Kind: api.EvFlush, At: 1}, api.Event{Kind: api.EvFence}
	rot, heal := api.Event{Kind: api.EvRot, At: 1, Words: word(0, 3)}, api.Event{Kind: api.EvHeal, At: 1}
	for _, c := range []struct {
		place int
		l     []api.Event
	}{
		{0, []api.Event{evict, store, evict}},
		{2, []api.Event{store, evict, evict}},
		{4, []api.Event{store, fence, flush, evict, evict}},
		{3, []api.Event{store, flush, fence, evict}},
		{2, []api.Event{store, heal, evict}},
		{1, []api.Event{store, rot}},
		{2, []api.Event{store, flush, rot, fence}},
		{1, []api.Event{rot, store}},
		{1, []api.Event{rot, evict}},
		{3, []api.Event{rot, flush, fence, store}},
	} {
		checks(t, base, c.l, c.place, api.ErrForm)
	}
	for _, l := range [][]api.Event{{store, store, evict, evict}, {store, evict, rot}, {store, flush, fence, rot, rot, store}, {rot, heal, store, evict}, {store, heal, rot}} {
		checks(t, base, l, len(l), api.OK)
	}
}

// notBases are images of which From makes no memory.
func notBases() []api.Image {
	list := []api.Image{nil, {}, make(api.Image, api.MaxLines+1)}
	for _, n := range []int{-1, api.MaxWord + 1, math.MinInt, math.MaxInt} {
		for k := range 8 {
			list = append(list, api.Image{{}, {Words: word(k, n)}})
		}
	}
	for _, n := range []int{-1, 1024, math.MinInt, math.MaxInt} {
		list = append(list, api.Image{{Code: n}, {}})
	}
	return list
}

func TestP5Bases(t *testing.T) {
	_, l := busy()
	for _, base := range notBases() {
		for _, l := range [][]api.Event{nil, l, {{Kind: 8}}, {{Kind: api.EvFence}}} {
			checks(t, base, l, 0, api.ErrArg)
			for _, n := range []int{-1, 0, len(l), len(l) + 1} {
				fails(t, base, l, n, nil, api.ErrArg, api.ErrArg)
				fails(t, base, l, n, []api.Cut{{Line: -1}}, api.ErrArg, api.ErrArg)
			}
		}
	}
	large := make(api.Image, api.MaxLines)
	last := api.Event{Kind: api.EvStore, At: 8*api.MaxLines - 1, Val: 1}
	checks(t, large, []api.Event{last}, 1, api.OK)
	fails(t, large, []api.Event{last}, 1, []api.Cut{{Line: api.MaxLines - 1, Keep: 1}}, api.OK, api.OK)
	last.At++
	checks(t, large, []api.Event{last}, 0, api.ErrForm)
}

func TestP5Points(t *testing.T) {
	base, l := long()
	bad := []api.Cut{{Line: -1}}
	for n := range len(l) + 1 {
		fails(t, base, l, n, nil, api.OK, api.OK)
		fails(t, base, l, n, bad, api.OK, api.ErrArg)
	}
	for _, list := range [][]api.Event{l, put(l, 0, strays[0]), put(l, 3, strays[1])} {
		for _, n := range []int{-1, len(list) + 1, math.MinInt, math.MaxInt} {
			fails(t, base, list, n, nil, api.ErrArg, api.ErrArg)
		}
	}
	for _, v := range strays {
		for i := range len(l) + 1 {
			list := put(l, i, v)
			for n := range len(list) + 1 {
				// What is behind the point does not matter.
				want, wantImage := api.OK, api.ErrArg
				if n > i {
					want, wantImage = api.ErrForm, api.ErrForm
				}
				fails(t, base, list, n, nil, want, want)
				fails(t, base, list, n, bad, want, wantImage)
			}
		}
	}
}

func TestP5NoEvents(t *testing.T) {
	base, _ := busy()
	for _, l := range [][]api.Event{nil, {}} {
		if n, e := trace.Cuts(base, l, 0); n != 1 || e != api.OK {
			t.Errorf("P5.3: without events Cuts is %d, %d", n, e)
		}
		if cuts, e := trace.Choice(base, l, 0, 9); len(cuts) != 0 || e != api.OK {
			t.Errorf("P5.3: without events Choice is %v, %d", cuts, e)
		}
		// What is flipped stays so.
		if img, e := trace.Image(base, l, 0, []api.Cut{{Line: 2}, {Line: 3}}); !slices.Equal(img, base) || e != api.OK {
			t.Errorf("P5.4: without events Image is %v, %d", img, e)
		}
		if fates, e := trace.Fates(base, l, 0); len(fates) != 0 || e != api.OK {
			t.Errorf("P5.5: without events Fates is %v, %d", fates, e)
		}
		if m, e := trace.Replay(base, l); e != api.OK || !reflect.DeepEqual(look(m), look(memory.From(base))) {
			t.Errorf("P5.2: without events Replay is another memory, or %d", e)
		}
	}
}

// views are all that can be seen of a memory: now, and, for the marks and the span, behind a fence and a store.
type views struct {
	image   api.Image
	seen    [][8]int
	pending [][]api.Store
	marks   []int
	events  []api.Event
	span    int
}

// look returns the views of a memory.
func look(m *memory.Memory) views {
	v := views{image: m.Image(), seen: m.Seen(), events: append([]api.Event{}, m.Events()...)}
	c := m.Copy()
	c.Fence()
	for i := range m.Lines() {
		v.pending = append(v.pending, append([]api.Store{}, m.Pending(i)...))
		v.marks = append(v.marks, len(m.Pending(i))-len(c.Pending(i)))
	}
	c.Heal(0, [8]int{})
	c.Store(0, 0)
	l := c.Events()
	v.span = l[len(l)-1].Span
	return v
}

func TestP52Replay(t *testing.T) {
	base, l := busy()
	l = append(l, api.Event{Kind: api.EvFlush, At: 0}, api.Event{Kind: api.EvStore, At: 0, Val: 1, Span: 3}, api.Event{Kind: api.EvFlush, At: 3})
	m, e := trace.Replay(base, l)
	if e != api.OK || m == nil {
		t.Fatal("P5.2: the error is", e)
	}
	want := views{
		image:   base,
		seen:    [][8]int{{0: 1, 1: 7, 2: 7, 3: 7, 4: 7, 5: 7, 6: 7, 7: 7}, {4, 2, 3}, {}, {}},
		pending: [][]api.Store{{{Word: 0, Val: 1}}, {{Word: 0, Val: 1}, {Word: 1, Val: 2}, {Word: 2, Val: 3}, {Word: 0, Val: 4}}, {}, {}},
		marks:   []int{0, 2, 0, 0},
		events:  l,
		span:    3,
	}
	if got := look(m); !reflect.DeepEqual(got, want) {
		t.Errorf("P5.2: Replay is\n%v, not\n%v", got, want)
	}
}

// TestP52Span lets stores with spans be followed by other events, and by stores without.
func TestP52Span(t *testing.T) {
	base := make(api.Image, 2)
	store, publish, none := api.Event{Kind: api.EvStore, Span: 4}, api.Event{Kind: api.EvPublish, At: 9, Span: math.MaxInt}, api.Event{Kind: api.EvStore}
	flush, heal := api.Event{Kind: api.EvFlush}, api.Event{Kind: api.EvHeal}
	for _, c := range []struct {
		span int
		l    []api.Event
	}{
		{0, nil}, {0, []api.Event{flush, heal}}, {4, []api.Event{store}}, {4, []api.Event{store, flush, heal}},
		{math.MaxInt, []api.Event{store, publish, flush}}, {4, []api.Event{publish, store}}, {0, []api.Event{store, publish, none}},
	} {
		m, e := trace.Replay(base, c.l)
		if e != api.OK || m == nil {
			t.Fatal("P5.2: the error is", e)
		}
		if n := look(m).span; n != c.span {
			t.Errorf("P5.2: after %v the span is %d, not %d", c.l, n, c.span)
		}
	}
}

// pendings returns a base and a trace of it after which so many stores are pending on its lines.
func pendings(numbers ...int) (api.Image, []api.Event) {
	var l []api.Event
	for line, n := range numbers {
		for i := range n {
			l = append(l, api.Event{Kind: api.EvStore, At: 8*line + i%8, Val: i + 1})
		}
	}
	return make(api.Image, len(numbers)), l
}

func TestP53Cuts(t *testing.T) {
	ones := slices.Repeat([]int{1}, 500)
	for _, c := range []struct {
		want  int
		lines []int
	}{
		{1, []int{0}}, {1, []int{0, 0, 0}}, {2, []int{0, 1, 0}}, {24, []int{1, 2, 3}}, {24, []int{3, 0, 2, 0, 1}}, {101, []int{0, 100}},
		{1 << 39, ones[:39]}, {api.MaxWord, ones[:40]}, {api.MaxWord, ones[:41]}, {api.MaxWord, ones[:62]}, {api.MaxWord, ones[:63]}, {api.MaxWord, ones[:64]}, {api.MaxWord, ones[:65]}, {api.MaxWord, ones},
		// The product is MaxWord itself, one less, and a little more.
		{api.MaxWord, []int{2, 4, 4, 10, 16, 30, 40, 61680}},
		{api.MaxWord - 1, []int{121368, 1, 6, 78, 8190}},
		{api.MaxWord - 1, []int{1, 6, 78, 8190, 121368}},
		{api.MaxWord, []int{121368, 1, 6, 78, 8190, 1}},
	} {
		base, l := pendings(c.lines...)
		if n, e := trace.Cuts(base, l, len(l)); n != c.want || e != api.OK {
			t.Errorf("P5.3: with %v pending stores Cuts is %d, %d, not %d", c.lines, n, e, c.want)
		}
	}
}

// choice checks the cuts of a choice, which name the lines 1, 3 and 4.
func choice(t *testing.T, base api.Image, l []api.Event, k int, keeps ...int) {
	t.Helper()
	want := []api.Cut{{Line: 1, Keep: keeps[0]}, {Line: 3, Keep: keeps[1]}, {Line: 4, Keep: keeps[2]}}
	if cuts, e := trace.Choice(base, l, len(l), k); !slices.Equal(cuts, want) || e != api.OK {
		t.Errorf("P5.3: the choice %d is %v, %d, not %v", k, cuts, e, want)
	}
}

func TestP53Choice(t *testing.T) {
	base, l := pendings(0, 2, 0, 4, 1, 0)
	for k := range 30 {
		for _, beyond := range []int{0, 30, 60, 30 * 31, 30 * (math.MaxInt/30 - 1)} {
			choice(t, base, l, k+beyond, k%3, k/3%5, k/15)
			choice(t, base, l, -(k+beyond)-1, k%3, k/3%5, k/15)
		}
	}
	// The greatest integer is 7 modulo 30.
	choice(t, base, l, math.MaxInt, 1, 2, 0)
	choice(t, base, l, math.MinInt, 1, 2, 0)
	choice(t, base, l, -1, 0, 0, 0)
	for _, k := range []int{0, 1, -1, math.MinInt, math.MaxInt} {
		if cuts, e := trace.Choice(base, nil, 0, k); len(cuts) != 0 || e != api.OK {
			t.Errorf("P5.3: with nothing pending the choice %d is %v, %d", k, cuts, e)
		}
	}
	// Beyond the lines that 64 bits have digits for, all keep nothing.
	base, l = pendings(slices.Repeat([]int{1}, 70)...)
	cuts, e := trace.Choice(base, l, len(l), math.MaxInt)
	if e != api.OK || len(cuts) != 70 {
		t.Fatalf("P5.3: Choice is %v, %d", cuts, e)
	}
	for i, c := range cuts {
		want := api.Cut{Line: i, Keep: 1}
		if i >= 63 {
			want.Keep = 0
		}
		if c != want {
			t.Errorf("P5.3: the cut %d is %v, not %v", i, c, want)
		}
	}
}

func TestP54Image(t *testing.T) {
	base, l := long()
	rest := api.Line{Words: [8]int{9, 9, 8, 9, 9, 9, 9, 9}, Code: withCode(full(9)).Code ^ 512}
	first := []api.Line{withCode(full(7)), withCode([8]int{10, 7, 7, 7, 7, 7, 7, 7}), withCode([8]int{10, 11, 7, 7, 7, 7, 7, 7})}
	// A flipped bit stays until a store is kept.
	last := []api.Line{base[3], withCode([8]int{7: api.MaxWord})}
	for a := range 3 {
		for b := range 2 {
			want := api.Image{first[a], rest, base[2], last[b]}
			for _, cuts := range [][]api.Cut{{{Line: 0, Keep: a}, {Line: 3, Keep: b}}, {{Line: 0, Keep: a}, {Line: 1}, {Line: 2}, {Line: 3, Keep: b}}} {
				if img, e := trace.Image(base, l, len(l), cuts); !slices.Equal(img, want) || e != api.OK {
					t.Errorf("P5.4: with the cuts %v the image is %v, %d, not %v", cuts, img, e, want)
				}
			}
		}
	}
	for n := range 5 {
		want := api.Image{base[0], withCode([8]int{4, 2, 3}), base[2], base[3]}
		want[1] = withCode([][8]int{{}, {1}, {1, 2}, {1, 2, 3}, {4, 2, 3}}[n])
		if img, e := trace.Image(base, l, 5, []api.Cut{{Line: 1, Keep: n}}); !slices.Equal(img, want) || e != api.OK {
			t.Errorf("P5.4: with %d of four stores the image is %v, %d, not %v", n, img, e, want)
		}
	}
	if img, e := trace.Image(base, l, 5, nil); !slices.Equal(img, api.Image{base[0], {}, base[2], base[3]}) || e != api.OK {
		t.Errorf("P5.4: without cuts the image is %v, %d", img, e)
	}
}

func TestP54Refused(t *testing.T) {
	base, l := long()
	for _, cuts := range [][]api.Cut{
		{{Line: -1}}, {{Line: 4}}, {{Line: math.MinInt}}, {{Line: math.MaxInt}},
		{{Line: 0, Keep: -1}}, {{Line: 0, Keep: 3}}, {{Line: 0, Keep: math.MaxInt}}, {{Line: 1, Keep: 1}}, {{Line: 2, Keep: 1}},
		{{Line: 0, Keep: 1}, {Line: 0, Keep: 1}}, {{Line: 3, Keep: 1}, {Line: 0, Keep: 1}}, {{Line: 0, Keep: 1}, {Line: 3, Keep: 2}},
	} {
		fails(t, base, l, len(l), cuts, api.OK, api.ErrArg)
		fails(t, base, put(l, 2, strays[0]), len(l), cuts, api.ErrForm, api.ErrForm)
		fails(t, base, put(l, 2, strays[0]), len(l)+2, cuts, api.ErrArg, api.ErrArg)
	}
	// These cuts can be had later, or could be had earlier.
	fails(t, base, l, 5, []api.Cut{{Line: 0, Keep: 1}}, api.OK, api.ErrArg)
	fails(t, base, l, 5, []api.Cut{{Line: 1, Keep: 4}}, api.OK, api.OK)
	fails(t, base, l, 6, []api.Cut{{Line: 1, Keep: 4}}, api.OK, api.ErrArg)
}

// fates checks the fates at a point.
func fates(t *testing.T, base api.Image, l []api.Event, n int, want ...int) {
	t.Helper()
	if got, e := trace.Fates(base, l, n); !slices.Equal(got, want) || e != api.OK {
		t.Errorf("P5.5: at the point %d of %v the fates are %v, %d, not %v", n, l, got, e, want)
	}
}

func TestP55Fates(t *testing.T) {
	const o, p, d, x = api.FateNone, api.FatePending, api.FateDurable, api.FateLost
	base, l := long()
	fates(t, base, l, 0)
	fates(t, base, l, 1, p)
	fates(t, base, l, 3, p, p, o)
	fates(t, base, l, 5, p, p, o, p, p)
	fates(t, base, l, 6, d, p, o, p, p, o)
	fates(t, base, l, 7, d, d, o, p, p, o, o)
	fates(t, base, l, 8, d, d, o, x, x, o, o, o)
	fates(t, base, l, 9, d, d, o, x, x, o, o, o, o)
	fates(t, base, l, 12, d, d, o, x, x, o, o, o, o, p, p, p)
	// An eviction of more than what has been flushed, and fences that settle in turn what is on two lines.
	_, l = busy()
	l = append(l, api.Event{Kind: api.EvEvict, At: 1, Val: 3}, api.Event{Kind: api.EvStore, At: 24}, api.Event{Kind: api.EvFlush, At: 3}, api.Event{Kind: api.EvFence}, api.Event{Kind: api.EvFlush, At: 1}, api.Event{Kind: api.EvPublish, At: 8}, api.Event{Kind: api.EvFence})
	fates(t, base, l, 6, d, d, o, d, p, o)
	fates(t, base, l, 7, d, d, o, d, p, o, p)
	fates(t, base, l, 9, d, d, o, d, p, o, d, o, o)
	fates(t, base, l, 12, d, d, o, d, d, o, d, o, o, o, p, o)
	// What is lost remains so; what a heal of another line, or with nothing pending, follows does not become lost.
	store, heal, other := api.Event{Kind: api.EvStore, At: 8}, api.Event{Kind: api.EvHeal, At: 1}, api.Event{Kind: api.EvHeal, At: 2}
	flush, fence := api.Event{Kind: api.EvFlush, At: 1}, api.Event{Kind: api.EvFence}
	fates(t, base, []api.Event{store, heal, store, other, flush, fence, heal, store, heal, store}, 10, x, o, d, o, o, o, o, x, o, p)
	fates(t, base, []api.Event{store, flush, heal, store, fence}, 5, x, o, o, p, o)
}

// TestP5Arguments looks for changes of what was given, and for memory that results share with it.
func TestP5Arguments(t *testing.T) {
	base, l := long()
	cuts := []api.Cut{{Line: 0, Keep: 2}, {Line: 3, Keep: 1}}
	oldBase, oldList, oldCuts := slices.Clone(base), slices.Clone(l), slices.Clone(cuts)
	for n := -1; n <= len(l)+1; n++ {
		for _, list := range [][]api.Event{l, put(l, 3, strays[0]), put(l, 9, strays[2])} {
			old := slices.Clone(list)
			trace.Check(base, list)
			trace.Replay(base, list)
			trace.Cuts(base, list, n)
			trace.Choice(base, list, n, 3)
			trace.Image(base, list, n, cuts)
			trace.Fates(base, list, n)
			trace.Print(list)
			if !slices.Equal(list, old) {
				t.Error("P5: the events have become", list)
			}
		}
	}
	m, _ := trace.Replay(base, l)
	events := m.Events()
	events[0] = api.Event{}
	m.Heal(0, full(1))
	m.Fence()
	img, _ := trace.Image(base, l, 0, nil)
	img[0] = api.Line{}
	choice, _ := trace.Choice(base, l, len(l), 5)
	choice[0] = api.Cut{}
	again, _ := trace.Replay(base, l)
	if !slices.Equal(base, oldBase) || !slices.Equal(l, oldList) || !slices.Equal(cuts, oldCuts) || !slices.Equal(again.Events(), l) {
		t.Errorf("P5: what was given has become %v, %v and %v", base, l, cuts)
	}
	base[0], l[0] = api.Line{Code: 1}, api.Event{Kind: 8}
	if !slices.Equal(again.Image()[:1], oldBase[:1]) || !slices.Equal(again.Events(), oldList) {
		t.Error("P5.2: the memory shares what it was made of")
	}
}

func TestExamples(t *testing.T) {
	base := make(api.Image, 2)
	l := []api.Event{{Kind: api.EvStore, At: 8, Val: 1, Span: 3}, {Kind: api.EvFlush, At: 1}, {Kind: api.EvStore, At: 9, Val: 2, Span: 3}, {Kind: api.EvFence}}
	for n, want := range []int{1, 2, 2, 3, 2} {
		if got, e := trace.Cuts(base, l, n); got != want || e != api.OK {
			t.Errorf("at the point %d Cuts is %d, %d", n, got, e)
		}
	}
	for k, want := range map[int]int{1: 1, 5: 2} {
		if cuts, e := trace.Choice(base, l, 3, k); !slices.Equal(cuts, []api.Cut{{Line: 1, Keep: want}}) || e != api.OK {
			t.Errorf("the choice %d is %v, %d", k, cuts, e)
		}
	}
	for k, want := range []int{0, 2} {
		cuts, _ := trace.Choice(base, l, 4, k)
		if img, e := trace.Image(base, l, 4, cuts); !slices.Equal(img, api.Image{{}, withCode([8]int{1, want})}) || e != api.OK {
			t.Errorf("the choice %d leaves %v, %d", k, img, e)
		}
	}
	fates(t, base, l, 4, api.FateDurable, api.FateNone, api.FatePending, api.FateNone)
	if s := trace.Print(l); s != "store 8 1 3\nflush 1\nstore 9 2 3\nfence\n" {
		t.Errorf("Print is %q", s)
	}
	checks(t, base, put(l, 4, api.Event{Kind: api.EvEvict, At: 1, Val: 2}), 4, api.ErrForm)
}
