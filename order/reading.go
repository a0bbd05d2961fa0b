package order

import (
	"iter"
	"slices"

	"alum/api"
	"alum/trace"
)

// reading is what is read in a trace: its publications, and of each event that is a store what becomes of it.
type reading struct {
	publications []api.Publication
	courses      []course
}

// course tells from which point on a store to a line is durable, and from which on it is lost.
// What does not happen in the trace happens at a point behind its last one.
type course struct{ line, durable, lost int }

// read reads a trace; its errors are those of Check.
func read(base api.Image, l []api.Event) (reading, api.Errno) {
	if _, e := trace.Check(base, l); e != api.OK {
		return reading{}, e
	}
	courses := make([]course, len(l))
	c := newCache()
	for i, v := range l {
		for _, s := range c.follow(i, v) {
			if v.Kind == api.EvHeal {
				courses[s].lost = i + 1
			} else {
				courses[s].durable = i + 1
			}
		}
		if isStore(v) {
			courses[i] = course{lineOf(v), len(l) + 1, len(l) + 1}
		}
	}
	return reading{Publications(l), courses}, api.OK
}

// missing returns the stores of a publication that some failure just after it loses, but not the publication.
// Stores that are pending on its own line are kept with it.
func (r reading) missing(p api.Publication) []int {
	var list []int
	for _, s := range p.Stores {
		c := r.courses[s]
		if c.lost <= p.At || c.durable > p.At && c.line != r.courses[p.At].line {
			list = append(list, s)
		}
	}
	return list
}

// points produces the points at which some failure exposes a publication, in ascending order.
func (r reading) points() iter.Seq[int] {
	return func(yield func(n int) bool) {
		next := 0
		for _, p := range r.publications {
			end := r.end(p)
			for next = max(next, p.At+1); next < end; next++ {
				if !yield(next) {
					return
				}
			}
		}
	}
}

// end returns the first point after a publication at which no failure exposes it.
// A publication that can be exposed is exposed from the point just after it on: until it is lost, or the last missing store is durable.
func (r reading) end(p api.Publication) int {
	end := p.At + 1
	for _, s := range r.missing(p) {
		end = max(end, r.courses[s].durable)
	}
	return min(end, r.courses[p.At].lost)
}

// whole returns the cut that keeps all that is pending, at a point just after a store, on the line of this store.
func (r reading) whole(n int) api.Cut {
	cut := api.Cut{Line: r.courses[n-1].line}
	for _, c := range r.courses[:n] {
		if c.line == cut.Line && c.durable > n && c.lost > n {
			cut.Keep++
		}
	}
	return cut
}

// repair returns how a publication can be mended that has missing stores.
func (r reading) repair(publish int, missing []int) api.Repair {
	x := api.Repair{Publish: publish}
	for _, s := range missing {
		c := r.courses[s]
		if c.lost <= publish {
			return api.Repair{Publish: publish, After: -1}
		}
		x.After = s + 1
		x.Lines = append(x.Lines, c.line)
	}
	slices.Sort(x.Lines)
	x.Lines = slices.Compact(x.Lines)
	return x
}
