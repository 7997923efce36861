package post

import (
	"plover/api"
	"plover/benc"
	"plover/frame"
)

// Put is a message as text.
func Put(m api.Msg) (string, api.Errno) {
	if e := Check(m); e != api.OK {
		return "", e
	}
	all, e := benc.Put(value(m))
	if e != api.OK {
		return "", e
	}
	s := ""
	for _, part := range []string{all, m.Text} {
		f, e := frame.Put(part)
		if e != api.OK {
			return "", e
		}
		s += f
	}
	return s, api.OK
}

// Take is the message of a text.
func Take(s string) (api.Msg, api.Errno) {
	m, ok := read(s)
	if !ok {
		return api.Msg{}, api.ErrPost
	}
	// What is no message's text is read as some message, too, but that one's text is another one.
	if text, e := Put(m); e != api.OK || text != s {
		return api.Msg{}, api.ErrPost
	}
	return m, api.OK
}

// value is all of a message but its text.
func value(m api.Msg) api.Value {
	var l, v, hits []api.Value
	for _, at := range fields(&m) {
		l = append(l, benc.Int(*at))
	}
	for _, n := range m.Op.V {
		v = append(v, benc.Int(n))
	}
	for _, h := range m.Reply.Hits {
		hits = append(hits, benc.Int(h.Id), benc.Int(h.Dist))
	}
	was := 0
	if m.Reply.Was {
		was = 1
	}
	return benc.List(append(l, benc.List(v...), benc.Int(int(m.Reply.Err)), benc.Int(was), benc.List(hits...))...)
}

// read is the message that bytes would be the text of, if they are one at all. It takes two frames, not all that there are, as many could stand behind.
func read(s string) (api.Msg, bool) {
	all, used, e := frame.Take(s)
	if e != api.OK {
		return api.Msg{}, false
	}
	text, _, e := frame.Take(s[used:])
	if e != api.OK {
		return api.Msg{}, false
	}
	v, e := benc.Only(all)
	if e != api.OK {
		return api.Msg{}, false
	}
	m, ok := message(v.L) // only lists have values within
	m.Text = text
	return m, ok
}

// message is what values would be of a message, without its text, if there are as many as they must be.
func message(l []api.Value) (api.Msg, bool) {
	var m api.Msg
	heads := fields(&m)
	if len(l) != len(heads)+4 {
		return api.Msg{}, false
	}
	for i, at := range heads {
		*at = l[i].N
	}
	rest := l[len(heads):]
	for _, x := range rest[0].L {
		m.Op.V = append(m.Op.V, x.N)
	}
	m.Reply.Err = api.Errno(rest[1].N)
	m.Reply.Was = rest[2].N == 1
	for hits := rest[3].L; len(hits) > 1; hits = hits[2:] {
		m.Reply.Hits = append(m.Reply.Hits, api.Hit{Id: hits[0].N, Dist: hits[1].N})
	}
	return m, true
}
