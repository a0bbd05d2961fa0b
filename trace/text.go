package trace

import (
	"slices"
	"strconv"
	"strings"

	"alum/api"
)

// words are the first words of lines, by the kinds of their events; the first one is that of kinds that there are not.
var words = [...]string{
	0:             "event",
	api.EvStore:   "store",
	api.EvPublish: "publish",
	api.EvFlush:   "flush",
	api.EvFence:   "fence",
	api.EvEvict:   "evict",
	api.EvHeal:    "heal",
	api.EvRot:     "rot",
}

// Print returns a list of events as text.
func Print(l []api.Event) string {
	var b []byte
	for _, v := range l {
		b = append(addLine(b, v), '\n')
	}
	return string(b)
}

// Parse reads a list of events.
func Parse(s string) ([]api.Event, int, api.Errno) {
	var l []api.Event
scan:
	for s != "" {
		line, below, ended := strings.Cut(s, "\n")
		word, parts, _ := strings.Cut(line, " ")
		v := api.Event{Kind: kindOf(word)}
		for _, f := range fields(&v) {
			var part string
			part, parts, _ = strings.Cut(parts, " ")
			n, err := strconv.Atoi(part)
			if err != nil {
				break scan
			}
			*f = n
		}
		// Whatever else is wrong with a line, its event is printed otherwise.
		if !ended || string(addLine(nil, v)) != line {
			break scan
		}
		l = append(l, v)
		s = below
	}
	if s != "" {
		return nil, len(l), api.ErrForm
	}
	return l, len(l), api.OK
}

// addLine appends the line of an event to b.
func addLine(b []byte, v api.Event) []byte {
	b = append(b, wordOf(v.Kind)...)
	for _, f := range fields(&v) {
		b = strconv.AppendInt(append(b, ' '), int64(*f), 10)
	}
	return b
}

// fields lists the fields of an event that its line names, in order.
func fields(v *api.Event) []*int {
	// Kinds with more fields fall through to those with fewer, so that the last field comes first.
	var l []*int
	switch v.Kind {
	case api.EvStore, api.EvPublish:
		l = append(l, &v.Span)
		fallthrough
	case api.EvEvict:
		l = append(l, &v.Val)
		fallthrough
	case api.EvFlush:
		l = append(l, &v.At)
	case api.EvRot:
		l = append(l, &v.Val)
		fallthrough
	case api.EvHeal:
		for k := range v.Words {
			l = append(l, &v.Words[len(v.Words)-1-k])
		}
		l = append(l, &v.At)
	case api.EvFence:
	default:
		l = append(l, &v.Kind)
	}
	slices.Reverse(l)
	return l
}

// wordOf returns the first word of the lines of a kind.
func wordOf(kind int) string {
	if kind < 0 || kind >= len(words) {
		kind = 0
	}
	return words[kind]
}

// kindOf returns the kind of the events whose lines have this first word, and 0 if there is none.
func kindOf(word string) int {
	for kind, w := range words {
		if w == word {
			return kind
		}
	}
	return 0
}
