package order_test

import (
	"reflect"
	"slices"
	"testing"

	"alum/api"
	"alum/memory"
	"alum/order"
	"alum/trace"
)

// failures calls a function with all failures at all points of a trace: with the point, the cuts and the stores that are durable.
func failures(t *testing.T, base api.Image, l []api.Event, use func(n int, cuts []api.Cut, durable []bool)) {
	t.Helper()
	for n := range len(l) + 1 {
		fates := fatesOf(t, base, l, n)
		for _, cuts := range choices(l, fates) {
			use(n, cuts, durableBy(l, fates, cuts))
		}
	}
}

// TestP62All compares Durable and Exposed with what the chapter says, after all failures of short traces.
func TestP62All(t *testing.T) {
	r := chance(62)
	exposed := 0
	for range 40 {
		base, l := anyTrace(r, 3, 14, allKinds)
		failures(t, base, l, func(n int, cuts []api.Cut, durable []bool) {
			if below(r, 2) == 0 {
				cuts = kept(cuts)
			}
			leaves(t, base, l, n, cuts, durable...)
			want, is := exposedBy(l, durable, cuts)
			if !is {
				exposing(t, base, l, n, cuts, -1, 0)
				return
			}
			exposed++
			exposing(t, base, l, n, cuts, want.Publish, want.Store)
		})
	}
	if exposed < 100 {
		t.Errorf("P6.3: only %d failures expose a publication", exposed)
	}
}

// exposable returns whether some failure at a point exposes a publication.
func exposable(l []api.Event, fates []int, p api.Publication) bool {
	for _, cuts := range choices(l, fates) {
		if exposes(p, durableBy(l, fates, cuts)) >= 0 {
			return true
		}
	}
	return false
}

// repairsBy returns the repairs that the chapter describes.
func repairsBy(t *testing.T, base api.Image, l []api.Event) []api.Repair {
	t.Helper()
	var list []api.Repair
	for _, p := range published(l) {
		fates := fatesOf(t, base, l, p.At+1)
		if !exposable(l, fates, p) {
			continue
		}
		x := api.Repair{Publish: p.At}
		for _, s := range p.Stores {
			if line := l[s].At / 8; fates[s] == api.FatePending && line != l[p.At].At/8 {
				x.After = s + 1
				x.Lines = append(x.Lines, line)
			}
		}
		for _, s := range p.Stores {
			if fates[s] == api.FateLost {
				x = api.Repair{Publish: p.At, After: -1}
			}
		}
		slices.Sort(x.Lines)
		x.Lines = slices.Compact(x.Lines)
		list = append(list, x)
	}
	return list
}

// mendedBy makes the calls on a memory that the events of a trace, with repairs, are of. The memory does not record an eviction of nothing.
func mendedBy(base api.Image, l []api.Event, repairs []api.Repair) []api.Event {
	m := memory.From(base)
	for n := range len(l) + 1 {
		var lines []int
		for _, r := range repairs {
			if r.After == n {
				lines = append(lines, r.Lines...)
			}
		}
		slices.Sort(lines)
		for _, line := range slices.Compact(lines) {
			m.Flush(line)
		}
		if slices.ContainsFunc(repairs, func(r api.Repair) bool { return r.After == n }) {
			m.Fence()
		}
		if n == len(l) {
			break
		}
		v := l[n]
		if v.Kind == api.EvEvict {
			v.Val = min(v.Val, len(m.Pending(v.At)))
		}
		do(m, v)
	}
	return m.Events()
}

// TestP68All compares Check, Points, Repairs and Mend with all failures at all points of short traces (P6.4 to P6.9).
func TestP68All(t *testing.T) {
	r := chance(68)
	var refused, helped, lost int
	for range 700 {
		base, l := anyTrace(r, 2+below(r, 3), 16, allKinds)
		var points []int
		var least []api.Exposure
		failures(t, base, l, func(n int, cuts []api.Cut, durable []bool) {
			x, is := exposedBy(l, durable, kept(cuts))
			if !is {
				return
			}
			if !slices.Contains(points, n) {
				points = append(points, n)
			}
			switch {
			case n > points[0]:
			case len(least) == 0 || total(x.Cuts) < total(least[0].Cuts):
				least = []api.Exposure{x}
			case total(x.Cuts) == total(least[0].Cuts):
				least = append(least, x)
			}
		})
		at(t, base, l, points...)
		repairs := repairsBy(t, base, l)
		needs(t, base, l, repairs...)
		mends(t, base, l, mendedBy(base, l, repairs))
		for _, x := range repairs {
			if x.After < 0 {
				lost++
			} else {
				helped++
			}
		}
		if len(points) == 0 {
			accepts(t, base, l)
			continue
		}
		refused++
		if len(least) != 1 || len(repairs) == 0 {
			t.Fatalf("P6.8, P6.9: of %v there are the exposures %v and the repairs %v", l, least, repairs)
		}
		x := least[0]
		if len(x.Cuts) != 1 || x.Point != x.Publish+1 || x.Cuts[0].Line != l[x.Publish].At/8 {
			t.Errorf("P6.8: the exposure of %v is %v", l, x)
		}
		refuses(t, base, l, x.Point, x.Publish, x.Store, x.Cuts[0].Line, x.Cuts[0].Keep)
		exposing(t, base, l, x.Point, x.Cuts, x.Publish, x.Store)
	}
	if refused < 200 || refused > 500 || helped < 200 || lost < 30 {
		t.Errorf("P6.8: %d of 700 traces are refused, %d repairs help, %d do not", refused, helped, lost)
	}
}

// lasting returns the stores, heals and rots of a list.
func lasting(l []api.Event) []api.Event {
	return slices.DeleteFunc(slices.Clone(l), func(v api.Event) bool {
		return v.Kind == api.EvFlush || v.Kind == api.EvFence || v.Kind == api.EvEvict
	})
}

// TestP610Mended checks what Mend makes of longer traces.
func TestP610Mended(t *testing.T) {
	r := chance(110)
	var helped, lost, fewer int
	for range 500 {
		base, l := anyTrace(r, 2+below(r, 5), 60, allKinds)
		repairs, _ := order.Repairs(base, l)
		mended, e := order.Mend(base, l)
		before, _ := trace.Replay(base, l)
		after, e2 := trace.Replay(base, mended)
		if e != api.OK || e2 != api.OK || !slices.Equal(before.Seen(), after.Seen()) || !slices.Equal(lasting(l), lasting(mended)) {
			t.Fatalf("P6.10: Mend(%v) is\n%v with the errors %d, %d", l, mended, e, e2)
		}
		if _, is, _ := order.Check(base, l); !is && !slices.Equal(l, mended) {
			t.Errorf("P6.10: the trace %v is changed to\n%v", l, mended)
		}
		if evictions(mended) < evictions(l) {
			fewer++
		}
		if slices.ContainsFunc(repairs, func(x api.Repair) bool { return x.After == -1 }) {
			lost++
			continue
		}
		if len(repairs) > 1 {
			helped++
		}
		accepts(t, base, mended)
	}
	if helped < 100 || lost < 100 || fewer < 100 {
		t.Errorf("P6.10: %d traces have several repairs that help, %d some that do not, %d fewer evictions", helped, lost, fewer)
	}
}

// evictions returns how many stores a list evicts.
func evictions(l []api.Event) int {
	n := 0
	for _, v := range l {
		if v.Kind == api.EvEvict {
			n += v.Val
		}
	}
	return n
}

// TestP611Further puts flushes and fences into accepted traces.
func TestP611Further(t *testing.T) {
	r := chance(111)
	still := 0
	for range 1500 {
		base, l := anyTrace(r, 3, 40, allKinds)
		l, _ = order.Mend(base, l)
		if _, is, _ := order.Check(base, l); is {
			continue
		}
		for range 1 + below(r, 3) {
			v := flush(below(r, 3))
			place := below(r, len(l)+1)
			l = slices.Insert(l, place, v)
			if below(r, 2) == 0 {
				l = slices.Insert(l, place+1+below(r, len(l)-place), fence)
			}
		}
		if _, e := trace.Check(base, l); e == api.OK && len(published(l)) > 0 {
			still++
			accepts(t, base, l)
		}
	}
	if still < 100 {
		t.Errorf("P6.11: only %d accepted traces with further events are traces", still)
	}
}

// TestP611OneLine checks that publications are not exposed whose stores are on their line, or durable already.
func TestP611OneLine(t *testing.T) {
	r := chance(112)
	safe := 0
	for range 400 {
		base, l := anyTrace(r, 2, 18, someKinds)
		repairs, e := order.Repairs(base, l)
		if e != api.OK {
			t.Fatalf("P6.6: the repairs of %v have the error %d", l, e)
		}
		var never []int
		for _, p := range published(l) {
			fates := fatesOf(t, base, l, p.At)
			if !slices.ContainsFunc(p.Stores, func(s int) bool { return fates[s] != api.FateDurable && l[s].At/8 != l[p.At].At/8 }) {
				never = append(never, p.At)
			}
		}
		for _, x := range repairs {
			if slices.Contains(never, x.Publish) {
				t.Errorf("P6.11: of %v the publication %d is repaired", l, x.Publish)
			}
		}
		if len(never) == len(published(l)) && len(never) > 0 {
			safe++
			accepts(t, base, l)
		}
	}
	if safe < 50 {
		t.Errorf("P6.11: only %d traces have safe publications alone", safe)
	}
}

// TestP612Words compares the words after failures with the stores that are durable.
func TestP612Words(t *testing.T) {
	r := chance(113)
	for range 60 {
		base, l := anyTrace(r, 3, 30, someKinds)
		for range 15 {
			n := below(r, len(l)+1)
			cuts, _ := trace.Choice(base, l, n, below(r, 1000))
			img, e := trace.Image(base, l, n, cuts)
			durable, e2 := order.Durable(base, l, n, cuts)
			if e != api.OK || e2 != api.OK {
				t.Fatalf("P6.12: the errors of %v at the point %d are %d, %d", l, n, e, e2)
			}
			want := slices.Clone(base)
			for i, is := range durable {
				if is {
					want[l[i].At/8].Words[l[i].At%8] = l[i].Val
				}
			}
			for line := range want {
				if img[line].Words != want[line].Words {
					t.Errorf("P6.12: after %v at the point %d with %v the line %d is %v, not %v", l, n, cuts, line, img[line].Words, want[line].Words)
				}
			}
		}
	}
}

// TestLong checks a long trace with many publications, of which each is exposed at two points.
func TestLong(t *testing.T) {
	const rounds = 10000
	var l, want []api.Event
	var points []int
	for i := range rounds {
		s, p, line := store(8*(i%3), 1), publish(8*(i%3+1), 1), i%3
		points = append(points, len(l)+2, len(l)+3)
		l = append(l, s, p, flush(line), fence, evict(line+1, 1))
		want = append(want, s, flush(line), fence, p, flush(line), fence, evict(line+1, 1))
	}
	at(t, zeros(4), l, points...)
	mends(t, zeros(4), l, want)
	accepts(t, zeros(4), want)
	refuses(t, zeros(4), l, 2, 1, 0, 1, 1)
}

// TestUnchanged checks that no call changes the base, the events or the cuts of any trace, and that a second call answers the same.
func TestUnchanged(t *testing.T) {
	r := chance(114)
	for range 60 {
		base, l := anyTrace(r, 3, 30, allKinds)
		n := below(r, len(l)+1)
		cuts, _ := trace.Choice(base, l, n, below(r, 1000))
		oldBase, oldList, oldCuts := slices.Clone(base), slices.Clone(l), slices.Clone(cuts)
		first := everything(base, l, n, cuts)
		if second := everything(base, l, n, cuts); !reflect.DeepEqual(first, second) {
			t.Errorf("the second answers are\n%v, not\n%v", second, first)
		}
		if !slices.Equal(base, oldBase) || !slices.Equal(l, oldList) || !slices.Equal(cuts, oldCuts) {
			t.Errorf("the base, the events or the cuts have changed: %v, %v, %v", base, l, cuts)
		}
	}
}

// everything returns what all calls answer.
func everything(base api.Image, l []api.Event, n int, cuts []api.Cut) []any {
	durable, e := order.Durable(base, l, n, cuts)
	x, is, e2 := order.Exposed(base, l, n, cuts)
	y, isY, e3 := order.Check(base, l)
	points, e4 := order.Points(base, l)
	repairs, e5 := order.Repairs(base, l)
	mended, e6 := order.Mend(base, l)
	return []any{order.Publications(l), durable, x, is, y, isY, points, repairs, mended, e, e2, e3, e4, e5, e6}
}
