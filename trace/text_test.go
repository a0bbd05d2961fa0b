package trace_test

import (
	"fmt"
	"math"
	"math/rand/v2"
	"regexp"
	"slices"
	"strconv"
	"strings"
	"testing"

	"alum/api"
	"alum/trace"
)

// wholeEvent returns an event with a number of its own in each field.
func wholeEvent(kind int) api.Event {
	return api.Event{Kind: kind, At: 11, Val: -22, Span: 33, Words: [8]int{1, -2, 0, 4, api.MaxWord, math.MinInt, math.MaxInt, 8}}
}

func TestP56Print(t *testing.T) {
	for kind, want := range map[int]string{
		api.EvStore:   "store 11 -22 33",
		api.EvPublish: "publish 11 -22 33",
		api.EvFlush:   "flush 11",
		api.EvFence:   "fence",
		api.EvEvict:   "evict 11 -22",
		api.EvHeal:    "heal 11 1 -2 0 4 1099511627775 -9223372036854775808 9223372036854775807 8",
		api.EvRot:     "rot 11 1 -2 0 4 1099511627775 -9223372036854775808 9223372036854775807 8 -22",
		0:             "event 0",
		8:             "event 8",
		-1:            "event -1",
		10:            "event 10",
		math.MinInt:   "event -9223372036854775808",
		math.MaxInt:   "event 9223372036854775807",
	} {
		v := wholeEvent(kind)
		if s := trace.Print([]api.Event{v}); s != want+"\n" {
			t.Errorf("P5.6: the kind %d is printed as %q, not %q", kind, s, want)
		}
		if s := trace.Print([]api.Event{v, {Kind: api.EvFence}, v}); s != want+"\nfence\n"+want+"\n" {
			t.Errorf("P5.6: of three events is printed %q", s)
		}
	}
	if s := trace.Print(nil) + trace.Print([]api.Event{}); s != "" {
		t.Errorf("P5.6: of no events is printed %q", s)
	}
	for n, want := range map[int]string{0: "0", -1: "-1", 1: "1", 10: "10", -100: "-100", math.MaxInt: "9223372036854775807", math.MinInt: "-9223372036854775808"} {
		l := []api.Event{{Kind: api.EvStore, At: n, Val: n, Span: n}, {Kind: api.EvRot, At: n, Val: n, Words: full(n)}}
		if s := trace.Print(l); s != "store"+strings.Repeat(" "+want, 3)+"\nrot"+strings.Repeat(" "+want, 10)+"\n" {
			t.Errorf("P5.6: with the number %d is printed %q", n, s)
		}
	}
}

// named returns an event with zero in all fields that are not printed.
func named(v api.Event) api.Event {
	switch v.Kind {
	case api.EvStore, api.EvPublish:
		return api.Event{Kind: v.Kind, At: v.At, Val: v.Val, Span: v.Span}
	case api.EvFlush:
		return api.Event{Kind: v.Kind, At: v.At}
	case api.EvEvict:
		return api.Event{Kind: v.Kind, At: v.At, Val: v.Val}
	case api.EvHeal:
		return api.Event{Kind: v.Kind, At: v.At, Words: v.Words}
	case api.EvRot:
		return api.Event{Kind: v.Kind, At: v.At, Val: v.Val, Words: v.Words}
	}
	return api.Event{Kind: v.Kind}
}

// printed returns the line of an event, without its newline.
func printed(v api.Event) string {
	words := strings.Trim(fmt.Sprint(v.Words), "[]")
	switch v.Kind {
	case api.EvStore:
		return fmt.Sprintf("store %d %d %d", v.At, v.Val, v.Span)
	case api.EvPublish:
		return fmt.Sprintf("publish %d %d %d", v.At, v.Val, v.Span)
	case api.EvFlush:
		return fmt.Sprintf("flush %d", v.At)
	case api.EvFence:
		return "fence"
	case api.EvEvict:
		return fmt.Sprintf("evict %d %d", v.At, v.Val)
	case api.EvHeal:
		return fmt.Sprintf("heal %d %s", v.At, words)
	case api.EvRot:
		return fmt.Sprintf("rot %d %s %d", v.At, words, v.Val)
	}
	return fmt.Sprintf("event %d", v.Kind)
}

// parses checks that a text is that of these events.
func parses(t *testing.T, s string, want ...api.Event) {
	t.Helper()
	if l, n, e := trace.Parse(s); !slices.Equal(l, want) || n != len(want) || e != api.OK {
		t.Errorf("P5.7: Parse of %q is %v, %d, %d, not %v", s, l, n, e, want)
	}
}

// stops checks that a text is none from a line on.
func stops(t *testing.T, s string, line int) {
	t.Helper()
	if l, n, e := trace.Parse(s); l != nil || n != line || e != api.ErrForm {
		t.Errorf("P5.7: Parse of %q is %v, %d, %d, but the line %d is wrong", s, l, n, e, line)
	}
}

func TestP57Kinds(t *testing.T) {
	var all []api.Event
	for _, kind := range []int{1, 2, 3, 4, 5, 6, 7, 0, -1, 8, 9, 10, -7, 100, math.MinInt, math.MaxInt} {
		v := wholeEvent(kind)
		parses(t, printed(v)+"\n", named(v))
		parses(t, printed(v)+"\n"+printed(v)+"\nfence\n", named(v), named(v), api.Event{Kind: api.EvFence})
		all = append(all, named(v))
	}
	parses(t, trace.Print(all), all...)
	parses(t, "")
	for kind := 1; kind <= 7; kind++ {
		stops(t, fmt.Sprintf("event %d\n", kind), 0)
		stops(t, fmt.Sprintf("fence\nevent 8\nevent %d\nfence\n", kind), 2)
	}
	for _, n := range []int{0, -1, 10, api.MaxWord, math.MinInt, math.MaxInt} {
		for _, kind := range []int{1, 2, 3, 5, 6, 7} {
			v := named(api.Event{Kind: kind, At: n, Val: n, Span: n, Words: full(n)})
			parses(t, printed(v)+"\n", v)
		}
	}
}

// TestP57Numbers writes each number of each line in wrong ways.
func TestP57Numbers(t *testing.T) {
	for kind := -1; kind <= 8; kind++ {
		parts := strings.Split(printed(named(wholeEvent(kind))), " ")
		for i := 1; i < len(parts); i++ {
			for _, bad := range []string{"", "+1", "+0", "-0", "00", "01", "-01", "007", "0x1", "0b1", "1_0", "1.0", "1e3", "a", "-", "+", "--1", "1-", "1\r", "\t1", "1\x00", "٣", "9223372036854775808", "-9223372036854775809", "18446744073709551616", "99999999999999999999999999"} {
				line := slices.Clone(parts)
				line[i] = bad
				s := strings.Join(line, " ")
				stops(t, s+"\n", 0)
				stops(t, "fence\nevent 0\n"+s+"\nfence\n", 2)
			}
		}
	}
}

// TestP57Parts has lines with other parts than they should have, and other ends of lines.
func TestP57Parts(t *testing.T) {
	for kind := -1; kind <= 8; kind++ {
		v := named(wholeEvent(kind))
		line := printed(v)
		parts := strings.Split(line, " ")
		bad := []string{
			" " + line, line + " ", line + " 1", line + " x", line + "\r", line + "\t", line + ";", "\t" + line, "x" + line, line + "x", "- " + line,
			strings.ToUpper(line), strings.ToUpper(line[:1]) + line[1:], line[1:], strings.Replace(line, parts[0], parts[0]+"s", 1), strings.Replace(line, parts[0], "", 1),
			line + " " + line, "", " ", "\x00", "events", "foo", "foo 1", "1", "1 1", "-8", "fences",
		}
		if len(parts) > 1 {
			bad = append(bad, parts[0], strings.Join(parts[1:], " "), strings.Join(parts, "  "), strings.Join(parts, "\t"), strings.Join(parts, ""))
			for i := 1; i <= len(parts); i++ {
				bad = append(bad, strings.Join(slices.Insert(slices.Clone(parts), i, ""), " "), strings.Join(slices.Insert(slices.Clone(parts), i, "7"), " "))
			}
			for i := range parts {
				bad = append(bad, strings.Join(slices.Delete(slices.Clone(parts), i, i+1), " "))
			}
		}
		for _, s := range bad {
			stops(t, s+"\n", 0)
			stops(t, "fence\n"+s+"\n", 1)
			stops(t, line+"\nfence\n"+s+"\n"+line+"\n", 2)
		}
		// The last line has no newline.
		stops(t, line, 0)
		stops(t, line+"\n"+line, 1)
		stops(t, line+"\n\n", 1)
		stops(t, "\n"+line+"\n", 0)
		stops(t, line+"\n"+line[:len(line)-1], 1)
		stops(t, line+"\r\n", 0)
	}
}

// number is an integer as lines have it.
const number = ` (?:0|-?[1-9][0-9]*)`

// lineForm is the form of lines, whatever the numbers are.
var lineForm = regexp.MustCompile(`^(?:(?:store|publish)(?:` + number + `){3}|flush` + number + `|fence|evict(?:` + number + `){2}|heal(?:` + number + `){9}|rot(?:` + number + `){10}|event` + number + `)$`)

// readLine returns the event of a line, and whether there is one.
func readLine(line string) (api.Event, bool) {
	if !lineForm.MatchString(line) {
		return api.Event{}, false
	}
	parts := strings.Split(line, " ")
	var n [11]int
	for i, s := range parts[1:] {
		big, err := strconv.ParseInt(s, 10, 64)
		if err != nil {
			return api.Event{}, false
		}
		n[i] = int(big)
	}
	switch parts[0] {
	case "store":
		return api.Event{Kind: api.EvStore, At: n[0], Val: n[1], Span: n[2]}, true
	case "publish":
		return api.Event{Kind: api.EvPublish, At: n[0], Val: n[1], Span: n[2]}, true
	case "flush":
		return api.Event{Kind: api.EvFlush, At: n[0]}, true
	case "fence":
		return api.Event{Kind: api.EvFence}, true
	case "evict":
		return api.Event{Kind: api.EvEvict, At: n[0], Val: n[1]}, true
	case "heal":
		return api.Event{Kind: api.EvHeal, At: n[0], Words: [8]int(n[1:])}, true
	case "rot":
		return api.Event{Kind: api.EvRot, At: n[0], Words: [8]int(n[1:]), Val: n[9]}, true
	}
	return api.Event{Kind: n[0]}, n[0] < 1 || n[0] > 7
}

// reads compares Parse with the form of lines.
func reads(t *testing.T, s string) bool {
	t.Helper()
	lines := strings.SplitAfter(s, "\n")
	var want []api.Event
	for i, line := range lines {
		if line == "" && i == len(lines)-1 {
			break
		}
		bare, ended := strings.CutSuffix(line, "\n")
		v, ok := readLine(bare)
		if !ok || !ended {
			stops(t, s, i)
			return false
		}
		want = append(want, v)
	}
	parses(t, s, want...)
	return true
}

// TestP57Short reads all texts of up to five pieces.
func TestP57Short(t *testing.T) {
	pieces := []string{"fence", "flush ", "event ", " ", "\n", "0", "3", "-", "12", "+"}
	right := 0
	var grow func(s string, n int)
	grow = func(s string, n int) {
		if reads(t, s) {
			right++
		}
		if n == 0 {
			return
		}
		for _, p := range pieces {
			grow(s+p, n-1)
		}
	}
	grow("", 5)
	if right < 50 {
		t.Errorf("P5.7: only %d texts are right", right)
	}
}

// anyNumber returns an integer of any size.
func anyNumber(r *rand.ChaCha8) int {
	if below(r, 8) == 0 {
		return []int{0, -1, math.MinInt, math.MaxInt, api.MaxWord}[below(r, 5)]
	}
	return int(r.Uint64()) >> below(r, 64)
}

// anyLine returns an event with any numbers.
func anyLine(r *rand.ChaCha8) api.Event {
	v := api.Event{Kind: below(r, 10) - 1, At: anyNumber(r), Val: anyNumber(r), Span: anyNumber(r)}
	for k := range v.Words {
		v.Words[k] = anyNumber(r)
	}
	if v.Kind == 0 {
		v.Kind = anyNumber(r)
	}
	return v
}

// TestP57Back prints random events and reads them, whole and with some bytes changed.
func TestP57Back(t *testing.T) {
	r := chance(57)
	right := 0
	for range 1500 {
		var l, want []api.Event
		var lines string
		for range below(r, 6) {
			v := anyLine(r)
			l, want, lines = append(l, v), append(want, named(v)), lines+printed(v)+"\n"
		}
		s := trace.Print(l)
		if s != lines {
			t.Fatalf("P5.6: of %v is printed %q, not %q", l, s, lines)
		}
		parses(t, s, want...)
		for range 20 {
			b := []byte(s)
			for range 1 + below(r, 3) {
				i, c := below(r, len(b)+1), "0123456789- \n+efr"[below(r, 17)]
				switch below(r, 3) {
				case 0:
					b = slices.Insert(b, i, c)
				case 1:
					b = slices.Delete(b, i, min(i+1, len(b)))
				case 2:
					b = slices.Replace(b, i, min(i+1, len(b)), c)
				}
			}
			if reads(t, string(b)) {
				right++
			}
		}
	}
	if right < 3000 {
		t.Errorf("P5.7: only %d changed texts are right", right)
	}
}
