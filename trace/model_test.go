package trace_test

import (
	"math/rand/v2"
	"slices"

	"alum/api"
	"alum/code"
	"alum/memory"
)

// chance returns a source of numbers that are the same in every run.
func chance(seed byte) *rand.ChaCha8 { return rand.NewChaCha8([32]byte{seed}) }

// below returns an integer from 0 to n-1.
func below(r *rand.ChaCha8, n int) int { return int(r.Uint64() % uint64(n)) }

// full returns the line whose words are all n.
func full(n int) [8]int { return [8]int{n, n, n, n, n, n, n, n} }

// word returns a line of zeros but for the word k.
func word(k, n int) [8]int {
	var w [8]int
	w[k] = n
	return w
}

// withCode returns a line with its code.
func withCode(w [8]int) api.Line { return api.Line{Words: w, Code: code.Encode(w)} }

// isStore tells whether an event is a store.
func isStore(v api.Event) bool { return v.Kind == api.EvStore || v.Kind == api.EvPublish }

// isOf tells whether an event is a store to a line.
func isOf(v api.Event, line int) bool { return isStore(v) && v.At/8 == line }

// inRange tells whether all numbers are from 0 to a greatest one.
func inRange(most int, l ...int) bool { return slices.Min(l) >= 0 && slices.Max(l) <= most }

// possible tells whether an event is one that a call on a memory records: what the chapter on memories says of its errors, and zero in all fields that are not named with its kind.
func possible(m *memory.Memory, v api.Event) bool {
	noWords, lines := v.Words == [8]int{}, m.Lines()
	switch v.Kind {
	case api.EvStore, api.EvPublish:
		return inRange(8*lines-1, v.At) && inRange(api.MaxWord, v.Val) && v.Span >= 0 && noWords && m.State(v.At/8) != api.LineRotten
	case api.EvFlush:
		return inRange(lines-1, v.At) && v.Val == 0 && v.Span == 0 && noWords
	case api.EvFence:
		return v == api.Event{Kind: api.EvFence}
	case api.EvEvict:
		return inRange(lines-1, v.At) && v.Val >= 1 && v.Val <= len(m.Pending(v.At)) && v.Span == 0 && noWords
	case api.EvHeal:
		return inRange(lines-1, v.At) && inRange(api.MaxWord, v.Words[:]...) && v.Val == 0 && v.Span == 0
	case api.EvRot:
		return inRange(lines-1, v.At) && inRange(api.MaxWord, v.Words[:]...) && inRange(1023, v.Val) && v.Span == 0 && len(m.Pending(v.At)) == 0
	}
	return false
}

// do makes the call that an event is of.
func do(m *memory.Memory, v api.Event) api.Errno {
	switch v.Kind {
	case api.EvStore, api.EvPublish:
		m.Span(v.Span)
		if v.Kind == api.EvStore {
			return m.Store(v.At, v.Val)
		}
		return m.Publish(v.At, v.Val)
	case api.EvFlush:
		return m.Flush(v.At)
	case api.EvEvict:
		return m.Evict(v.At, v.Val)
	case api.EvHeal:
		return m.Heal(v.At, v.Words)
	case api.EvRot:
		return m.Rot(v.At, v.Words, v.Val)
	}
	m.Fence()
	return api.OK
}

// fateTable returns what has become of each event at each point, point by point, from the events alone.
func fateTable(l []api.Event) [][]int {
	table := [][]int{{}}
	for n, v := range l {
		row := make([]int, n+1)
		for i, fate := range table[n] {
			row[i] = fate
			if fate == api.FatePending {
				row[i] = fateAfter(l, table[n], i, n)
			}
		}
		if isStore(v) {
			row[n] = api.FatePending
		}
		table = append(table, row)
	}
	return table
}

// fateAfter returns what becomes of the store i, which is pending, by the event n; fates are those before it.
func fateAfter(l []api.Event, fates []int, i, n int) int {
	line := l[i].At / 8
	switch v := l[n]; {
	case v.Kind == api.EvFence && slices.Contains(l[i:n], api.Event{Kind: api.EvFlush, At: line}):
		return api.FateDurable
	case v.Kind == api.EvEvict && v.At == line:
		ahead := 0
		for j := range i {
			if isOf(l[j], line) && fates[j] == api.FatePending {
				ahead++
			}
		}
		if ahead < v.Val {
			return api.FateDurable
		}
	case v.Kind == api.EvHeal && v.At == line:
		return api.FateLost
	}
	return api.FatePending
}

// left returns what a failure after the events leaves of a line of which it keeps so many pending stores.
// (A line rots only while nothing is pending; so what is durable at last can be followed event by event.)
func left(base api.Line, line int, l []api.Event, fates []int, keep int) api.Line {
	for i, v := range l {
		switch {
		case v.Kind == api.EvHeal && v.At == line:
			base = withCode(v.Words)
		case v.Kind == api.EvRot && v.At == line:
			base.Code ^= v.Val
			for k := range v.Words {
				base.Words[k] ^= v.Words[k]
			}
		case isOf(v, line) && (fates[i] == api.FateDurable || fates[i] == api.FatePending && keep > 0):
			if fates[i] == api.FatePending {
				keep--
			}
			words, _, _ := code.Fix(base.Words, base.Code)
			words[v.At%8] = v.Val
			base = withCode(words)
		}
	}
	return base
}

// flips returns words and a code with at most so many bits that are 1.
func flips(r *rand.ChaCha8, most int) (words [8]int, bits int) {
	for range below(r, most+1) {
		if i := below(r, 330); i < 320 {
			words[i/40] ^= 1 << (i % 40)
		} else {
			bits ^= 1 << (i - 320)
		}
	}
	return words, bits
}

// anyImage returns durable lines; of some a bit is flipped, or two are.
func anyImage(r *rand.ChaCha8, n int) api.Image {
	var img api.Image
	for range n {
		l := withCode([8]int{below(r, 1<<40), 3: below(r, 5), 6: api.MaxWord})
		words, bits := flips(r, max(0, below(r, 5)-2))
		for k := range words {
			l.Words[k] ^= words[k]
		}
		l.Code ^= bits
		img = append(img, l)
	}
	return img
}

// anyEvent returns an event that is often possible.
func anyEvent(r *rand.ChaCha8, lines int) api.Event {
	kinds := []int{api.EvStore, api.EvStore, api.EvStore, api.EvStore, api.EvPublish, api.EvFlush, api.EvFlush, api.EvFence, api.EvEvict, api.EvEvict, api.EvHeal, api.EvRot}
	v := api.Event{Kind: kinds[below(r, len(kinds))], At: below(r, lines)}
	switch v.Kind {
	case api.EvStore, api.EvPublish:
		v.At, v.Val, v.Span = 8*v.At+below(r, 8), below(r, 1<<40), below(r, 3)
	case api.EvFence:
		v.At = 0
	case api.EvEvict:
		v.Val = 1 + below(r, 3)
	case api.EvHeal:
		v.Words = [8]int{below(r, 1<<40), 7: below(r, 1<<40)}
	case api.EvRot:
		v.Words, v.Val = flips(r, 3)
	}
	return v
}

// anyTrace returns a base, a trace of it that random calls have recorded, and the memory at each point.
func anyTrace(r *rand.ChaCha8, lines, length int) (api.Image, []api.Event, []*memory.Memory) {
	base := anyImage(r, lines)
	m := memory.From(base)
	points := []*memory.Memory{m.Copy()}
	for range length {
		if do(m, anyEvent(r, lines)) == api.OK {
			points = append(points, m.Copy())
		}
	}
	return base, m.Events(), points
}
