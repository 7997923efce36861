package node

import (
	"plover/api"
	"plover/shard"
)

// answers tells what a question of each kind is answered, but for what all answers have; an error: it is refused.
func answers() map[int]func(*Node, api.Msg) (api.Msg, api.Errno) {
	return map[int]func(*Node, api.Msg) (api.Msg, api.Errno){
		api.MsgWrite:  (*Node).write,
		api.MsgAsk:    (*Node).ask,
		api.MsgCheck:  (*Node).check,
		api.MsgCopy:   (*Node).copy,
		api.MsgLoad:   (*Node).load,
		api.MsgSeal:   (*Node).seal,
		api.MsgAdopt:  (*Node).adopt,
		api.MsgForget: (*Node).forget,
		api.MsgOpen:   (*Node).open,
	}
}

// write does a client's change. Another node may do it where this one tells that the shard is elsewhere; all other errors are the client's answer.
func (n *Node) write(m api.Msg) (api.Msg, api.Errno) {
	before := n.version(m)
	r, e := n.at(m.Shard).Write(m.Client, m.Seq, m.Op)
	if e == api.ErrSealed || e == api.ErrArg {
		return api.Msg{}, e
	}
	if e != api.OK {
		r = api.Reply{Err: e}
	}
	if n.version(m) != before { // else it was done already, or is refused
		n.marks = append(n.marks, Mark{m.Client, m.Seq})
	}
	return api.Msg{Kind: api.MsgWrote, Reply: r}, api.OK
}

// ask finds the nearest points.
func (n *Node) ask(m api.Msg) (api.Msg, api.Errno) {
	hits, e := n.at(m.Shard).Ask(m.Op.V, m.Op.K, m.Limit)
	if e == api.ErrSealed {
		return api.Msg{}, e
	}
	return api.Msg{Kind: api.MsgTold, Version: n.version(m), Reply: api.Reply{Err: e, Hits: hits}}, api.OK
}

// check tells how many changes the shard has, as long as it is here.
func (n *Node) check(m api.Msg) (api.Msg, api.Errno) {
	state, _, version, _ := n.Stands(m.Shard)
	if state != shard.Owner {
		return api.Msg{}, api.ErrSealed
	}
	return api.Msg{Kind: api.MsgChecked, Version: version}, api.OK
}

// copy is all of the shard, while it goes on.
func (n *Node) copy(m api.Msg) (api.Msg, api.Errno) {
	text, e := n.at(m.Shard).Text()
	return api.Msg{Kind: api.MsgCopied, Version: n.version(m), Text: text}, e
}

// load lets a copy of the shard be here.
func (n *Node) load(m api.Msg) (api.Msg, api.Errno) {
	return api.Msg{Kind: api.MsgLoaded}, n.at(m.Shard).Load(m.N, m.Text)
}

// seal lets nothing be changed any more, and is what was done since the copy.
func (n *Node) seal(m api.Msg) (api.Msg, api.Errno) {
	s := n.at(m.Shard)
	if e := s.Seal(m.N); e != api.OK {
		return api.Msg{}, e
	}
	text, e := s.Since(m.Version)
	if e != api.OK {
		text, e = s.Text()
	}
	return api.Msg{Kind: api.MsgSealed, Text: text}, e
}

// adopt lets the copy, with what was done since, be the shard.
func (n *Node) adopt(m api.Msg) (api.Msg, api.Errno) {
	return api.Msg{Kind: api.MsgAdopted}, n.at(m.Shard).Adopt(m.N, m.Epoch, m.Text)
}

// forget lets the copy, or what was sealed, be gone.
func (n *Node) forget(m api.Msg) (api.Msg, api.Errno) {
	e := n.at(m.Shard).Forget(m.N)
	if e == api.ErrOld { // what it asks for is gone since a later move
		e = api.OK
	}
	return api.Msg{Kind: api.MsgForgot}, e
}

// open lets what was sealed be the shard again.
func (n *Node) open(m api.Msg) (api.Msg, api.Errno) {
	return api.Msg{Kind: api.MsgOpened}, n.at(m.Shard).Reopen(m.N, m.Epoch)
}

// version is how many changes the shard has to which a message is.
func (n *Node) version(m api.Msg) int {
	_, _, version, _ := n.Stands(m.Shard)
	return version
}
