// Package polygon: lists of rings, and what may stand against them.
package polygon

import (
	"overlay/api"
	"overlay/place"
	"overlay/segment"
)

// none: where a number from 0 on is sought and not found.
const none = -1

// minRing: fewer points have nothing between them.
const minRing = 3

// Check tells what stands against p, and where (P4).
func Check(p [][]api.Point) (api.Errno, int) {
	if len(p) > api.MaxRings {
		return api.ErrRings, 0
	}
	ring := badRing(p)
	if ring != none {
		return api.ErrCount, ring
	}
	// Only now is it sure that there are few edges.
	edges := Edges(p)
	off := offGrid(edges)
	if off != none {
		return api.ErrPoint, off
	}
	empty := emptyEdge(edges)
	if empty != none {
		return api.ErrEdge, empty
	}
	shared := sharedEdge(edges)
	if shared != none {
		return api.ErrShare, shared
	}
	return api.OK, 0
}

// Edges gives the edges of p, each under its number; it goes from A, the point of that number, to B.
func Edges(p [][]api.Point) []segment.Segment {
	var edges []segment.Segment
	for _, ring := range p {
		for i, from := range ring {
			next := i + 1
			if next == len(ring) {
				next = 0
			}
			edges = append(edges, segment.Segment{A: from, B: ring[next]})
		}
	}
	return edges
}

// badRing gives the number of the first ring that has too few points, or too many with those ahead of it.
func badRing(p [][]api.Point) int {
	room := api.MaxPoints
	for i, ring := range p {
		if len(ring) < minRing || len(ring) > room {
			return i
		}
		room -= len(ring)
	}
	return none
}

// offGrid gives the number of the first point that is no grid point.
func offGrid(edges []segment.Segment) int {
	for i, edge := range edges {
		if !place.IsGrid(edge.A) {
			return i
		}
	}
	return none
}

// emptyEdge gives the number of the first edge whose two ends are the same.
func emptyEdge(edges []segment.Segment) int {
	for i, edge := range edges {
		if edge.IsEmpty() {
			return i
		}
	}
	return none
}

// sharedEdge gives the number of the first edge that lies along one of a lower number.
func sharedEdge(edges []segment.Segment) int {
	for i, edge := range edges {
		if liesAlong(edge, edges[:i]) {
			return i
		}
	}
	return none
}

// liesAlong tells whether the edge has more than one place in common with one of the others.
func liesAlong(edge segment.Segment, others []segment.Segment) bool {
	for _, other := range others {
		meeting := segment.Meet(edge, other)
		if meeting.Kind == api.Along {
			return true
		}
	}
	return false
}
