// Package cut: the edges of two polygons, cut into pieces wherever they meet.
package cut

import (
	"overlay/api"
	"overlay/place"
	"overlay/polygon"
	"overlay/segment"
)

// Pieces gives the pieces of a and b (P6), against which Check has nothing.
func Pieces(a [][]api.Point, b [][]api.Point) []api.Piece {
	edgesA := polygon.Edges(a)
	edgesB := polygon.Edges(b)
	var all []segment.Segment
	all = append(all, edgesA...)
	all = append(all, edgesB...)
	spots := spotsOf(all)
	var pieces []api.Piece
	for i, p := range spots {
		for _, q := range neighbours(p, spots[i+1:], all) {
			leftA, rightA := sides(p, q, edgesA)
			leftB, rightB := sides(p, q, edgesB)
			pieces = append(pieces, api.Piece{P: p, Q: q, LeftA: leftA, RightA: rightA, LeftB: leftB, RightB: rightB})
		}
	}
	return pieces
}

// spotsOf gives the spots of the edges, each once, in the order of places.
func spotsOf(edges []segment.Segment) []api.Point {
	var spots []api.Point
	for _, edge := range edges {
		// Among the others is the edge itself: what it has in common with itself ends at its own ends.
		for _, other := range edges {
			meeting := segment.Meet(edge, other)
			if meeting.Kind != api.Apart {
				spots = insert(spots, meeting.P)
			}
			if meeting.Kind == api.Along {
				spots = insert(spots, meeting.Q)
			}
		}
	}
	return spots
}

// insert lays p into a list that is in the order of places, unless its place is there already.
func insert(list []api.Point, p api.Point) []api.Point {
	i := len(list)
	for i > 0 && place.Compare(p, list[i-1]) < 0 {
		i--
	}
	if i > 0 && place.Compare(p, list[i-1]) == 0 {
		return list
	}
	list = append(list, p)
	for j := len(list) - 1; j > i; j-- {
		list[j] = list[j-1]
	}
	list[i] = p
	return list
}

// neighbours gives the next spot behind p on each edge that p is on, each once, in the order of places. Behind are all spots behind p, in that order.
func neighbours(p api.Point, behind []api.Point, edges []segment.Segment) []api.Point {
	var list []api.Point
	for _, edge := range edges {
		if !edge.Has(p) {
			continue
		}
		for _, q := range behind {
			if edge.Has(q) {
				list = insert(list, q)
				break
			}
		}
	}
	return list
}

// sides tells whether the places close to the piece from p to q, to the left of it and to the right, are inside the polygon of these edges.
func sides(p api.Point, q api.Point, edges []segment.Segment) (bool, bool) {
	left := false
	right := false
	for _, edge := range edges {
		// Just behind p in the order of places a ray goes up from close to the piece, as in polygon.Locate.
		if !edge.Spans(p) {
			continue
		}
		side := sideOf(p, q, edge)
		if side < 0 {
			left = !left
		}
		// From the right of the piece, the ray crosses also the edge that the piece lies on.
		if side <= 0 {
			right = !right
		}
	}
	return left, right
}

// sideOf tells on which side of the edge the piece from p to q lies, close to p: as Segment.Side tells it of a place.
func sideOf(p api.Point, q api.Point, edge segment.Segment) int {
	side := edge.Side(p)
	if side != 0 {
		return side
	}
	return edge.Side(q)
}
