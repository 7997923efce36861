package logs

import (
	"plover/api"
	"plover/benc"
	"plover/block"
	"plover/frame"
	"strings"
)

const heads = 2 // the blocks ahead of the halves

// half is one of the two parts of a disk that can hold records.
type half struct {
	disk   *block.Disk
	first  int // its first block
	blocks int
}

// halfOf is the half that holds the records of a turn: the first one at first, and then in turns.
func halfOf(d *block.Disk, turn int) half {
	others := d.Blocks() - heads
	if turn&1 == 0 {
		return half{d, heads, others / 2}
	}
	return half{d, heads + others/2, others - others/2}
}

// bytes is how many bytes it can hold.
func (h half) bytes() int {
	return h.blocks * api.BlockSize
}

// read is what it holds, up to the first block that is not full: what is behind that one belongs to nothing ahead of it.
func (h half) read() string {
	var all strings.Builder
	for i := range h.blocks {
		s, e := h.disk.Get(h.first + i)
		if e != api.OK {
			break
		}
		all.WriteString(s)
		if len(s) < api.BlockSize {
			break
		}
	}
	return all.String()
}

// lay sees to it that so many blocks, from one on, have bytes, and the blocks for which there are none left have none.
func (h half) lay(from, blocks int, s string) api.Errno {
	for i := from; i < from+blocks; i++ {
		mine := s[:min(api.BlockSize, len(s))]
		s = s[len(mine):]
		had, e := h.disk.Get(h.first + i)
		if e == api.OK && had != mine {
			e = h.disk.Put(h.first+i, mine)
		}
		if e != api.OK {
			return e
		}
	}
	return api.OK
}

// blocksOf is how many blocks bytes need.
func blocksOf(s string) int {
	return (len(s) + api.BlockSize - 1) / api.BlockSize
}

// lastTurn is the later one of the turns that a disk's heads tell, or 0, if there is none.
func lastTurn(d *block.Disk) int {
	var turns [heads]int
	for i := range turns {
		turns[i] = headAt(d, i)
	}
	return max(turns[0], turns[1])
}

// headAt is the turn that a head tells, or 0, if it is none.
func headAt(d *block.Disk, at int) int {
	s, e := d.Get(at)
	if e != api.OK {
		return 0
	}
	text, _, e := frame.Take(s)
	if e != api.OK {
		return 0
	}
	v, e := benc.Only(text)
	if e != api.OK || v.Kind != api.ValueInt {
		return 0
	}
	return v.N
}

// putHead writes the head of a turn, and leaves that of the turn ahead of it as it is.
func putHead(d *block.Disk, turn int) api.Errno {
	text, e := benc.Put(benc.Int(turn))
	if e != api.OK {
		return e
	}
	s, e := frame.Put(text)
	if e != api.OK {
		return e
	}
	return d.Put(turn&1, s)
}
