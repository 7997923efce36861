package benc

import (
	"plover/api"
	"strconv"
)

// Put is a value as bytes.
func Put(v api.Value) (string, api.Errno) {
	var w writer
	if !w.value(v, 0) {
		return "", fault(v)
	}
	return string(w.b), api.OK
}

// writer holds the bytes of what was gone over so far.
type writer struct {
	b []byte
}

// value writes a value that is within so many lists, and tells whether it may be; it ends at the first fault, which may not be the one to tell.
func (w *writer) value(v api.Value, within int) bool {
	switch v.Kind {
	case api.ValueInt:
		w.number(v.N)
	case api.ValueText:
		return w.text(v.S)
	case api.ValueList:
		return w.list(v.L, within)
	default:
		return false
	}
	return w.fits()
}

func (w *writer) number(n int) {
	w.b = append(w.b, 'i')
	w.b = strconv.AppendInt(w.b, int64(n), 10)
	w.b = append(w.b, 'e')
}

func (w *writer) text(s string) bool {
	if len(s) > api.MaxValue { // asked ahead, so that no more bytes than may be are ever copied
		return false
	}
	w.b = strconv.AppendInt(w.b, int64(len(s)), 10)
	w.b = append(w.b, ':')
	w.b = append(w.b, s...)
	return w.fits()
}

func (w *writer) list(l []api.Value, within int) bool {
	if within == api.MaxDeep {
		return false
	}
	w.b = append(w.b, 'l')
	for i := range l {
		if !w.value(l[i], within+1) {
			return false
		}
	}
	w.b = append(w.b, 'e')
	return w.fits()
}

func (w *writer) fits() bool {
	return len(w.b) <= api.MaxValue
}

// fault tells why a value is refused: of its faults the one that the document names first, wherever it is.
func fault(v api.Value) api.Errno {
	switch {
	case hasOther(v):
		return api.ErrArg
	case isDeep(v):
		return api.ErrDeep
	}
	return api.ErrLong
}

// hasOther tells whether a value, or one within it, is of another kind. It goes down list by list, not by calling itself, as lists may be deeper than calls.
func hasOther(v api.Value) bool {
	seen := visited{}
	for level := [][]api.Value{{v}}; len(level) > 0; level = seen.within(level) {
		for _, l := range level {
			for i := range l {
				if !isKind(l[i].Kind) {
					return true
				}
			}
		}
	}
	return false
}

// isDeep tells whether there is a list within MaxDeep others.
func isDeep(v api.Value) bool {
	level := [][]api.Value{{v}}
	for range api.MaxDeep + 1 {
		seen := visited{} // a list may stand deeper as well, so each level has its own
		level = seen.within(level)
	}
	return len(level) > 0
}

func isKind(kind int) bool {
	return kind == api.ValueInt || kind == api.ValueText || kind == api.ValueList
}

// visited tells, of each place where lists begin, how many values were gone over from there on. One list may stand in many others, and even in itself: going over it once for each way to it might never end.
type visited map[*api.Value]int

// within tells the lists that are values of some lists, and what of them was not gone over yet.
func (seen visited) within(level [][]api.Value) [][]api.Value {
	var lists [][]api.Value
	for _, l := range level {
		for i := range l {
			if l[i].Kind != api.ValueList {
				continue
			}
			if rest, ok := seen.rest(l[i].L); ok {
				lists = append(lists, rest)
			}
		}
	}
	return lists
}

// rest is what of a list was not gone over yet, and whether it has to be; the empty one has to be once, as it is a list, too.
func (seen visited) rest(l []api.Value) ([]api.Value, bool) {
	var first *api.Value
	if len(l) > 0 {
		first = &l[0]
	}
	n, known := seen[first]
	if known && n >= len(l) {
		return nil, false
	}
	seen[first] = len(l)
	return l[n:], true
}
