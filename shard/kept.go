package shard

import (
	"plover/api"
	"plover/dedup"
	"plover/frame"
	"plover/vptree"
	"slices"
	"strings"
)

// pointsARecord is how many points a record has at the most: so many, of the longest numbers, are within MaxRecord bytes.
const pointsARecord = 128

// kept is a shard: what the records of its log make of it.
type kept struct {
	dim     int
	state   int
	epoch   int
	move    int
	version int
	tree    *vptree.Tree
	table   *dedup.Table
}

// keptOf is what records make, one behind the other.
func keptOf(dim int, records []string) *kept {
	k := &kept{dim: dim, table: dedup.New()}
	k.tree, _ = vptree.New(dim)
	for _, text := range records {
		k.do(recordOf(text))
	}
	k.tree.Build()
	return k
}

// deeds tells what a record of each kind does.
func deeds() map[int]func(*kept, record) {
	return map[int]func(*kept, record){
		wholeRecord:  (*kept).whole,
		pointsRecord: (*kept).add,
		standRecord:  (*kept).stand,
		insertRecord: (*kept).insert,
		dropRecord:   (*kept).drop,
	}
}

// do does what a record says; one of no known kind is passed over.
func (k *kept) do(r record) {
	if deed, known := deeds()[r.kind]; known {
		deed(k, r)
	}
}

// whole is what it is but for its points, which are added behind.
func (k *kept) whole(r record) {
	table, e := dedup.Of(r.table)
	if e != api.OK {
		return
	}
	k.stand(r)
	k.version, k.table = r.version, table
}

// add puts points in that were there already.
func (k *kept) add(r record) {
	for _, p := range r.points {
		k.tree.Put(p)
	}
}

// stand lets it have another state, epoch and move.
func (k *kept) stand(r record) {
	k.state, k.epoch, k.move = r.state, r.epoch, r.move
}

// insert is a client's insert.
func (k *kept) insert(r record) {
	for _, p := range r.points {
		was, _ := k.tree.Put(p)
		k.note(r, was)
	}
}

// drop is a client's delete.
func (k *kept) drop(r record) {
	for _, p := range r.points {
		k.note(r, k.tree.Drop(p.Id))
	}
}

// note takes note of a change.
func (k *kept) note(r record, was bool) {
	k.table.Put(r.client, r.seq, api.Reply{Was: was})
	k.version++
}

// records are those that make it.
func (k *kept) records() []string {
	return k.standing(k.state, k.epoch, k.move)
}

// standing are the records of one that has its points, table and version, and stands so.
func (k *kept) standing(state, epoch, move int) []string {
	head := record{kind: wholeRecord, state: state, epoch: epoch, move: move, version: k.version, dim: k.dim, table: k.table.Text()}
	l := []string{head.text()}
	for some := range slices.Chunk(k.tree.Points(), pointsARecord) {
		r := record{kind: pointsRecord, points: some}
		l = append(l, r.text())
	}
	return l
}

// text is all of it that goes to another node, where it stands as that node says: its records as frames, in a frame around them, so that a text that has lost its end is none.
func (k *kept) text() string {
	var all strings.Builder
	for _, r := range k.standing(None, 0, 0) {
		all.WriteString(framed(r))
	}
	return framed(all.String())
}

// framed is a text as a frame: records are within its limit, and so are all of a shard's together, so that there is no error to tell.
func framed(s string) string {
	f, _ := frame.Put(s)
	return f
}

// read is the shard whose text that is.
func read(text string, dim int) (*kept, api.Errno) {
	all, _, e := frame.Take(text)
	if e != api.OK {
		return nil, api.ErrValue
	}
	records, _ := frame.All(all)
	k := keptOf(dim, records)
	// Other records may make the same, and bytes stand behind what was read.
	if k.text() != text || !k.mayBe() {
		return nil, api.ErrValue
	}
	return k, api.OK
}

// mayBe tells whether some changes, as many as its version says, lead to its points and its table.
func (k *kept) mayBe() bool {
	clients, seqs, had := 0, 0, 0
	for client := range api.MaxClients {
		seq := k.table.Last(client)
		if seq == 0 {
			continue
		}
		r, _ := k.table.Find(client, seq)
		if r.Err != api.OK { // what is refused is not noted
			return false
		}
		clients++
		seqs += seq
		if r.Was {
			had++
		}
	}
	// A client did one change at least, and none twice.
	if k.version < clients || k.version > seqs {
		return false
	}
	// Each point came by a change that found none of its number, and so did the first one that another change found.
	return k.version-had >= max(k.tree.Len(), min(had, 1))
}
