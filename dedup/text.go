package dedup

import (
	"plover/api"
	"plover/benc"
)

// Text is the table as text.
func (t *Table) Text() string {
	if !t.given() {
		return ""
	}
	var rows []api.Value
	for client, x := range t.last {
		if x.seq > 0 {
			rows = append(rows, row(client, x))
		}
	}
	// Eight rows of four numbers are within all of layer 2's limits: there is no error to tell.
	s, _ := benc.Put(benc.List(rows...))
	return s
}

// Of is the table of a text.
func Of(s string) (*Table, api.Errno) {
	if len(s) > api.MaxValue { // no value is as long: it need not be read
		return nil, api.ErrValue
	}
	v, e := benc.Only(s)
	if e != api.OK || v.Kind != api.ValueList {
		return nil, api.ErrValue
	}
	t := New()
	before := -1
	for _, r := range v.L {
		client, ok := t.take(r)
		if !ok || client <= before {
			return nil, api.ErrValue
		}
		before = client
	}
	return t, api.OK
}

// row is what a client did last as a value.
func row(client int, x thing) api.Value {
	was := 0
	if x.was {
		was = 1
	}
	return benc.List(benc.Int(client), benc.Int(x.seq), benc.Int(int(x.err)), benc.Int(was))
}

// take takes note of a row's client, if the row may be: which client.
func (t *Table) take(row api.Value) (client int, ok bool) {
	n, ok := four(row)
	if !ok || n[3] != 0 && n[3] != 1 {
		return 0, false
	}
	e := t.Put(n[0], n[1], api.Reply{Err: api.Errno(n[2]), Was: n[3] == 1})
	return n[0], e == api.OK
}

// four are the numbers of a list of four.
func four(row api.Value) (n [4]int, ok bool) {
	if len(row.L) != len(n) { // only lists have values within
		return n, false
	}
	for i, v := range row.L {
		if v.Kind != api.ValueInt {
			return n, false
		}
		n[i] = v.N
	}
	return n, true
}
