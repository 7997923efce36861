package chart

import (
	"plover/api"
	"plover/benc"
)

// Text is a chart as text.
func Text(c api.Chart) (string, api.Errno) {
	if e := Check(c); e != api.OK {
		return "", e
	}
	var nodes []api.Value
	for _, n := range c.Nodes {
		nodes = append(nodes, benc.Int(n))
	}
	return benc.Put(benc.List(benc.Int(c.Epoch), benc.List(nodes...)))
}

// Of is the chart of a text.
func Of(s string) (api.Chart, api.Errno) {
	if len(s) > api.MaxValue { // no value is as long: it need not be read
		return api.Chart{}, api.ErrValue
	}
	v, e := benc.Only(s)
	if e != api.OK || len(v.L) != 2 { // only lists have values within
		return api.Chart{}, api.ErrValue
	}
	c := api.Chart{Epoch: v.L[0].N}
	for _, x := range v.L[1].L {
		c.Nodes = append(c.Nodes, x.N)
	}
	// What has other kinds of values within is read as some chart, too, but that one's text is another one.
	if text, e := Text(c); e != api.OK || text != s {
		return api.Chart{}, api.ErrValue
	}
	return c, api.OK
}
