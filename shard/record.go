package shard

import (
	"plover/api"
	"plover/benc"
)

// The kinds of records.
const (
	wholeRecord  = 1 + iota // the first one: how it stands, its version, its table
	pointsRecord            // points that it has, too
	standRecord             // it stands otherwise
	insertRecord            // a client's insert
	dropRecord              // a client's delete
)

// record is a part of what is kept. Which fields count hangs on its kind.
type record struct {
	kind    int
	state   int
	epoch   int
	move    int
	version int
	dim     int
	client  int
	seq     int
	table   string
	points  []api.Point
}

// numbers are the fields that count, but for the table and the points.
func (r *record) numbers() []*int {
	switch r.kind {
	case wholeRecord:
		return []*int{&r.state, &r.epoch, &r.move, &r.version, &r.dim}
	case standRecord:
		return []*int{&r.state, &r.epoch, &r.move}
	case insertRecord, dropRecord:
		return []*int{&r.client, &r.seq}
	}
	return nil
}

// text is the record as bytes: a list of its kind, its numbers, its table, if it has one, and its points.
func (r record) text() string {
	l := []api.Value{benc.Int(r.kind)}
	for _, n := range r.numbers() {
		l = append(l, benc.Int(*n))
	}
	if r.table != "" {
		l = append(l, benc.Str(r.table))
	}
	for _, p := range r.points {
		l = append(l, valueOf(p))
	}
	// It is within all of layer 2's limits: there is no error to tell.
	s, _ := benc.Put(benc.List(l...))
	return s
}

// recordOf is the record of bytes; of bytes that are none it is one of no kind, or has no points where there are none.
func recordOf(text string) record {
	v, e := benc.Only(text)
	if e != api.OK || len(v.L) == 0 { // only lists have values within
		return record{}
	}
	r := record{kind: v.L[0].N}
	rest := v.L[1:]
	for _, n := range r.numbers() {
		if len(rest) == 0 {
			return record{}
		}
		*n, rest = rest[0].N, rest[1:]
	}
	for _, x := range rest {
		switch {
		case x.Kind == api.ValueText:
			r.table = x.S
		case len(x.L) > 0:
			r.points = append(r.points, pointOf(x.L))
		}
	}
	return r
}

// valueOf is a point as a value: a list of its number, and those of its vector.
func valueOf(p api.Point) api.Value {
	l := []api.Value{benc.Int(p.Id)}
	for _, n := range p.V {
		l = append(l, benc.Int(n))
	}
	return benc.List(l...)
}

// pointOf is the point of a list's values.
func pointOf(l []api.Value) api.Point {
	p := api.Point{Id: l[0].N}
	for _, x := range l[1:] {
		p.V = append(p.V, x.N)
	}
	return p
}
