package vptree

import (
	"plover/api"
	"plover/vec"
	"slices"
	"sort"
)

// node is a point, and two trees of others: those within a distance of it, and those beyond it.
type node struct {
	id     int
	v      []int
	radius int   // the distance
	within *node // the points that are not farther than it
	beyond *node // the points that are not nearer
}

// spot is a point, and how far it is from the one by which it is sorted.
type spot struct {
	api.Point
	far int
}

// build is a tree of points.
func build(l []api.Point) *node {
	spots := make([]spot, len(l))
	for i, p := range l {
		spots[i].Point = p
	}
	return split(spots)
}

// split is a tree of points, as deep on one side as on the other: points just at the distance may stand on either side of it, since all may be at one place.
func split(l []spot) *node {
	if len(l) == 0 {
		return nil
	}
	// The last one is the farthest from the node above: from the edge, distances differ more than from the middle.
	top, others := l[len(l)-1], l[:len(l)-1]
	n := &node{id: top.Id, v: top.V}
	if len(others) == 0 {
		return n
	}
	for i := range others {
		others[i].far = far(n.v, others[i].V)
	}
	slices.SortFunc(others, func(a, b spot) int {
		return a.far - b.far
	})
	half := (len(others) + 1) / 2
	n.radius = others[half-1].far
	n.within = split(others[:half])
	n.beyond = split(others[half:])
	return n
}

// seek tells a closure points, and how far they are from a vector: all that are not farther than the reach, which the closure answers anew each time. It answers the last reach.
func (n *node) seek(v []int, reach int, tell func(h api.Hit) int) int {
	if n == nil {
		return reach
	}
	dist := far(n.v, v)
	reach = tell(api.Hit{Id: n.id, Dist: dist})
	side, other := n.within, n.beyond
	if dist > n.radius {
		side, other = other, side
	}
	reach = side.seek(v, reach, tell)
	// From the vector to the other side it is at least as far as to the border, as no way is longer than one by a third point.
	if max(dist, n.radius)-min(dist, n.radius) <= reach {
		reach = other.seek(v, reach, tell)
	}
	return reach
}

// far is how far two vectors of one tree are from one another: they were checked when they came.
func far(a, b []int) int {
	dist, _ := vec.Dist(a, b)
	return dist
}

// nearest are the nearest ones of what was found.
type nearest struct {
	k     int // how many at the most
	limit int // how far at the most
	hits  []api.Hit
}

// take takes what was found, if it is one of the nearest.
func (b *nearest) take(h api.Hit) {
	if h.Dist > b.reach() {
		return
	}
	at := sort.Search(len(b.hits), func(i int) bool {
		return vec.Less(h, b.hits[i])
	})
	b.hits = slices.Insert(b.hits, at, h)
	b.hits = b.hits[:min(b.k, len(b.hits))]
}

// reach is how far a point may be that is still to be taken.
func (b *nearest) reach() int {
	if len(b.hits) < b.k {
		return b.limit
	}
	return b.hits[b.k-1].Dist
}
