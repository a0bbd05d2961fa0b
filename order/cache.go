package order

import (
	"slices"

	"alum/api"
)

// cache follows the events of a trace: it holds the places of the pending stores of each line, and the flushes since the last fence.
type cache struct {
	pending map[int][]int
	flushes []flush
}

// flush is the flush of a line, and its place.
type flush struct{ line, place int }

// newCache returns the cache of a memory before its first event.
func newCache() *cache { return &cache{pending: map[int][]int{}} }

// follow lets an event happen, and returns the places of the stores that are not pending any more.
func (c *cache) follow(place int, v api.Event) []int {
	switch v.Kind {
	case api.EvStore, api.EvPublish:
		line := lineOf(v)
		c.pending[line] = append(c.pending[line], place)
	case api.EvFlush:
		c.flushes = append(c.flushes, flush{v.At, place})
	case api.EvFence:
		return c.fence()
	case api.EvEvict:
		return c.take(v.At, v.Val)
	case api.EvHeal:
		return c.take(v.At, len(c.pending[v.At]))
	}
	return nil
}

// fence takes, for each flush, what is pending on its line since before the flush.
func (c *cache) fence() []int {
	var taken []int
	for _, f := range c.flushes {
		// The places are ascending, and that of a flush is none of them.
		n, _ := slices.BinarySearch(c.pending[f.line], f.place)
		taken = append(taken, c.take(f.line, n)...)
	}
	c.flushes = nil
	return taken
}

// take removes the first n pending stores of a line, and returns their places.
func (c *cache) take(line, n int) []int {
	places := c.pending[line]
	c.pending[line] = places[n:]
	return places[:n]
}

// isStore tells whether an event is a store.
func isStore(v api.Event) bool { return v.Kind == api.EvStore || v.Kind == api.EvPublish }

// lineOf returns the line of a store.
func lineOf(v api.Event) int { return v.At / api.LineWords }
