package trace_test

import (
	"math"
	"math/rand/v2"
	"reflect"
	"slices"
	"testing"

	"alum/api"
	"alum/code"
	"alum/memory"
	"alum/trace"
)

// pendingStores returns the cuts of a memory with which a failure keeps everything: only of lines that have something pending.
func pendingStores(m *memory.Memory) []api.Cut {
	var cuts []api.Cut
	for line := range m.Lines() {
		if n := len(m.Pending(line)); n > 0 {
			cuts = append(cuts, api.Cut{Line: line, Keep: n})
		}
	}
	return cuts
}

// product returns how many choices there are between nothing and all of these cuts.
func product(cuts []api.Cut) int {
	total := 1
	for _, c := range cuts {
		total *= c.Keep + 1
	}
	return total
}

// lastSpan returns the span of the last store.
func lastSpan(l []api.Event) int {
	for _, v := range slices.Backward(l) {
		if isStore(v) {
			return v.Span
		}
	}
	return 0
}

// TestP5Recorded compares all functions with the memories on which calls were made, at each point of many traces.
func TestP5Recorded(t *testing.T) {
	r := chance(5)
	for range 60 {
		base, l, points := anyTrace(r, 1+below(r, 4), 50)
		checks(t, base, l, len(l), api.OK)
		table := fateTable(l)
		for n, m := range points {
			back, e := trace.Replay(base, l[:n])
			if e != api.OK {
				t.Fatalf("P5.2: the error at the point %d of %v is %d", n, l, e)
			}
			got, want := look(back), look(m)
			want.span = lastSpan(l[:n])
			if !reflect.DeepEqual(got, want) {
				t.Fatalf("P5.2: at the point %d of %v the memory is\n%v, not\n%v", n, l, got, want)
			}
			fates(t, base, l, n, table[n]...)
			all := pendingStores(m)
			if total, e := trace.Cuts(base, l, n); total != product(all) || e != api.OK {
				t.Errorf("P5.3: at the point %d of %v Cuts is %d, %d, not %d", n, l, total, e, product(all))
			}
			k := below(r, product(all))
			cuts, e := trace.Choice(base, l, n, k)
			img, e2 := trace.Image(base, l, n, cuts)
			c := m.Copy()
			if e != api.OK || e2 != api.OK || c.Crash(cuts) != api.OK || !slices.Equal(img, c.Image()) {
				t.Errorf("P5.4: at the point %d of %v the image of the choice %d is %v, not %v", n, l, k, img, c.Image())
			}
		}
	}
}

// change gives one field of an event another value.
func change(r *rand.ChaCha8, v api.Event) api.Event {
	n := []int{-1, 0, 1, 2, 3, 4, 8, 31, 32, 1023, 1024, api.MaxWord, api.MaxWord + 1, math.MinInt, math.MaxInt}[below(r, 15)]
	switch below(r, 5) {
	case 0:
		v.Kind = below(r, 10) - 1
	case 1:
		v.At = n
	case 2:
		v.Val = n
	case 3:
		v.Span = n
	case 4:
		v.Words[below(r, 8)] = n
	}
	return v
}

// TestP51Changed changes, leaves out, doubles and moves events of traces, and looks for the first event that is not possible.
func TestP51Changed(t *testing.T) {
	r := chance(51)
	still := 0
	for range 3000 {
		base, l, _ := anyTrace(r, 1+below(r, 4), 25)
		if len(l) == 0 {
			continue
		}
		for range 1 + below(r, 2) {
			i, j := below(r, len(l)), below(r, len(l))
			switch below(r, 6) {
			case 0:
				l[i], l[j] = l[j], l[i]
			case 1:
				l = put(l, i, l[j])
			case 2:
				l = put(l, i, anyEvent(r, len(base)))
			default:
				l[i] = change(r, l[i])
			}
		}
		m, place := memory.From(base), 0
		for place < len(l) && possible(m, l[place]) {
			do(m, l[place])
			place++
		}
		if place == len(l) {
			still++
			checks(t, base, l, place, api.OK)
			continue
		}
		checks(t, base, l, place, api.ErrForm)
		fails(t, base, l, place, nil, api.OK, api.OK)
		fails(t, base, l, place+1, nil, api.ErrForm, api.ErrForm)
	}
	if still < 300 || still > 2500 {
		t.Errorf("P5.1: of 3000 changed traces %d are traces still", still)
	}
}

// combinations calls a function with all cuts between nothing and all of these.
func combinations(all []api.Cut, use func(cuts []api.Cut)) {
	if len(all) == 0 {
		use(nil)
		return
	}
	last := all[len(all)-1]
	combinations(all[:len(all)-1], func(cuts []api.Cut) {
		for keep := range last.Keep + 1 {
			use(append(slices.Clone(cuts), api.Cut{Line: last.Line, Keep: keep}))
		}
	})
}

// keepOf returns how much cuts keep of a line.
func keepOf(cuts []api.Cut, line int) int {
	for _, c := range cuts {
		if c.Line == line {
			return c.Keep
		}
	}
	return 0
}

// TestP58Choices compares all choices of short traces, at each point, with all combinations of prefixes, and with the words that their stores leave.
func TestP58Choices(t *testing.T) {
	r := chance(58)
	choices := 0
	for range 400 {
		base, l, points := anyTrace(r, 1+below(r, 3), 14)
		table := fateTable(l)
		for n, m := range points {
			total, _ := trace.Cuts(base, l, n)
			if total > 200 {
				continue
			}
			var found, wanted [][]api.Cut
			for k := range total {
				cuts, e := trace.Choice(base, l, n, k)
				img, e2 := trace.Image(base, l, n, cuts)
				if e != api.OK || e2 != api.OK {
					t.Fatalf("P5.8: the choice %d at the point %d of %v has the errors %d and %d", k, n, l, e, e2)
				}
				for line, got := range img {
					if want := left(base[line], line, l[:n], table[n], keepOf(cuts, line)); got != want {
						t.Fatalf("P5.8: at the point %d of %v the choice %v leaves of the line %d %v, not %v", n, l, cuts, line, got, want)
					}
				}
				found = append(found, cuts)
			}
			combinations(pendingStores(m), func(cuts []api.Cut) { wanted = append(wanted, cuts) })
			compare := func(a, b []api.Cut) int {
				return slices.CompareFunc(a, b, func(x, y api.Cut) int { return x.Keep - y.Keep })
			}
			slices.SortFunc(found, compare)
			slices.SortFunc(wanted, compare)
			if !slices.EqualFunc(found, wanted, slices.Equal) {
				t.Fatalf("P5.8: at the point %d of %v the choices are %v, not %v", n, l, found, wanted)
			}
			choices += total
		}
	}
	if choices < 10000 {
		t.Errorf("P5.8: there are only %d choices", choices)
	}
}

// TestP58Prefixes reads off, of lines that nobody heals and that do not rot, which prefixes of the stores are left.
func TestP58Prefixes(t *testing.T) {
	const stores = 6
	for settled := range stores + 1 {
		m := memory.New(2)
		for i := range stores {
			m.Store(8+i, 1)
			m.Store(i, 1)
		}
		for range settled {
			m.Evict(1, 1)
		}
		base, l := make(api.Image, 2), m.Events()
		left := map[int]int{}
		total, _ := trace.Cuts(base, l, len(l))
		for k := range total {
			cuts, _ := trace.Choice(base, l, len(l), k)
			img, _ := trace.Image(base, l, len(l), cuts)
			kept := slices.Index(img[1].Words[:], 0)
			if slices.Contains(img[1].Words[:kept], 0) || slices.Contains(img[1].Words[kept:], 1) {
				t.Errorf("P5.8: %v is left, which is no prefix", img[1].Words)
			}
			left[kept]++
		}
		for kept := range stores + 1 {
			want := stores + 1
			if kept < settled {
				want = 0
			}
			if left[kept] != want {
				t.Errorf("P5.8: with %d settled stores %d choices leave %d of them, not %d", settled, left[kept], kept, want)
			}
		}
	}
}

// TestP59Independent keeps of one line what it can, with many cuts of the others.
func TestP59Independent(t *testing.T) {
	r := chance(59)
	changes := 0
	for range 150 {
		base, l, points := anyTrace(r, 2+below(r, 3), 30)
		n := below(r, len(points))
		all := pendingStores(points[n])
		for i, c := range all {
			for keep := range c.Keep + 1 {
				cuts := make([]api.Cut, len(all))
				var first api.Line
				for turn := range 6 {
					for j, c := range all {
						cuts[j] = api.Cut{Line: c.Line, Keep: below(r, c.Keep+1)}
					}
					cuts[i].Keep = keep
					img, e := trace.Image(base, l, n, cuts)
					if e != api.OK {
						t.Fatal("P5.9: the error is", e)
					}
					if turn == 0 {
						first = img[c.Line]
					}
					if img[c.Line] != first {
						t.Errorf("P5.9: with the cuts %v the line %d is %v, and not %v as before", cuts, c.Line, img[c.Line], first)
					}
					changes++
				}
			}
		}
	}
	if changes < 1000 {
		t.Errorf("P5.9: there are only %d failures", changes)
	}
}

// TestP510Evictions compares failures with cuts, and those that keep nothing behind evictions.
func TestP510Evictions(t *testing.T) {
	r := chance(10)
	evictions := 0
	for range 400 {
		base, l, points := anyTrace(r, 1+below(r, 4), 30)
		n := below(r, len(points))
		total, _ := trace.Cuts(base, l, n)
		for range 10 {
			cuts, _ := trace.Choice(base, l, n, below(r, total))
			list := slices.Clone(l[:n])
			for _, c := range cuts {
				if c.Keep > 0 {
					list = append(list, api.Event{Kind: api.EvEvict, At: c.Line, Val: c.Keep})
					evictions++
				}
			}
			img, e := trace.Image(base, l, n, cuts)
			want, e2 := trace.Image(base, list, len(list), nil)
			if e != api.OK || e2 != api.OK || !slices.Equal(img, want) {
				t.Errorf("P5.10: at the point %d of %v the cuts %v leave %v, %d; with evictions it is %v, %d", n, l, cuts, img, e, want, e2)
			}
		}
	}
	if evictions < 1000 {
		t.Errorf("P5.10: there are only %d evictions", evictions)
	}
}

// TestP511Order looks at the fates at all points of many traces.
func TestP511Order(t *testing.T) {
	r := chance(11)
	counts := map[int]int{}
	for range 80 {
		base, l, _ := anyTrace(r, 1+below(r, 3), 50)
		var before []int
		for n := range len(l) + 1 {
			now, e := trace.Fates(base, l, n)
			if len(now) != n || e != api.OK {
				t.Fatalf("P5.11: at the point %d of %v the fates are %v, %d", n, l, now, e)
			}
			for i, fate := range before {
				if fate != api.FatePending && now[i] != fate {
					t.Errorf("P5.11: the fate %d of the event %d of %v becomes %d at the point %d", fate, i, l, now[i], n)
				}
			}
			pending := map[int]bool{}
			for i, fate := range now {
				if (fate == api.FateNone) == isStore(l[i]) {
					t.Errorf("P5.5: the event %v has the fate %d", l[i], fate)
				}
				if line := l[i].At / 8; fate == api.FateDurable && pending[line] {
					t.Errorf("P5.11: at the point %d of %v the store %d is durable before one that is pending", n, l, i)
				} else if fate == api.FatePending {
					pending[line] = true
				}
				counts[fate]++
			}
			before = now
		}
	}
	for _, fate := range []int{api.FateNone, api.FatePending, api.FateDurable, api.FateLost} {
		if counts[fate] < 1000 {
			t.Errorf("P5.11: the fate %d is there only %d times", fate, counts[fate])
		}
	}
}

// TestP511Words checks that what is durable is what a failure that keeps nothing leaves, whatever was flipped before.
func TestP511Words(t *testing.T) {
	base := api.Image{{Words: word(2, 1), Code: code.Encode(word(2, 3))}}
	l := []api.Event{{Kind: api.EvStore, At: 0, Val: 1}, {Kind: api.EvFlush}, {Kind: api.EvStore, At: 1, Val: 1}, {Kind: api.EvFence}, {Kind: api.EvRot}}
	fates(t, base, l, 4, api.FateDurable, api.FateNone, api.FatePending, api.FateNone)
	for n, want := range []api.Line{base[0], base[0], base[0], base[0], withCode([8]int{1, 0, 3})} {
		if img, e := trace.Image(base, l, n, nil); len(img) != 1 || img[0] != want || e != api.OK {
			t.Errorf("P5.11: at the point %d the line is %v, %d, not %v", n, img, e, want)
		}
	}
	checks(t, base, l, 4, api.ErrForm)
}
