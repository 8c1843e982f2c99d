// Package border: the borders of what two polygons make together, and the rings in which they go round it.
package border

import (
	"overlay/api"
	"overlay/place"
	"overlay/segment"
)

// isIn tells whether a place is in the result of op, one of the operations, by whether it is inside a and inside b.
func isIn(op int, inA bool, inB bool) bool {
	switch op {
	case api.And:
		return inA && inB
	case api.Or:
		return inA || inB
	case api.Minus:
		return inA && !inB
	case api.Back:
		return inB && !inA
	}
	return inA != inB
}

// bordersOf gives the borders among the pieces, each as it goes: the result is to the left of one who goes from A to B.
func bordersOf(op int, pieces []api.Piece) []segment.Segment {
	var borders []segment.Segment
	for _, piece := range pieces {
		left := isIn(op, piece.LeftA, piece.LeftB)
		right := isIn(op, piece.RightA, piece.RightB)
		if left && !right {
			borders = append(borders, segment.Segment{A: piece.P, B: piece.Q})
		}
		if right && !left {
			borders = append(borders, segment.Segment{A: piece.Q, B: piece.P})
		}
	}
	return borders
}

// followers gives for each border the number of the one that comes behind it.
func followers(borders []segment.Segment) []int {
	var list []int
	for i, ended := range borders {
		// As no border begins where it ends itself, its own number stands for none found yet.
		first := i
		for k, border := range borders {
			if place.Compare(border.A, ended.B) != 0 {
				continue
			}
			if first == i || isMetAhead(border.B, borders[first].B, ended) {
				first = k
			}
		}
		list = append(list, first)
	}
	return list
}

// isMetAhead tells whether one who turns clockwise about the end of a border, from the direction in which it lies, looks to p before he looks to q. Neither lies in that direction itself.
func isMetAhead(p api.Point, q api.Point, ended segment.Segment) bool {
	sideP := place.Side(ended.B, ended.A, p)
	sideQ := place.Side(ended.B, ended.A, q)
	isRightP := sideP < 0
	isRightQ := sideQ < 0
	// What lies to the right comes in the first half of the turn; straight on is where the second half begins.
	if isRightP != isRightQ {
		return isRightP
	}
	// Within one half of the turn, clockwise is to the right.
	return place.Side(ended.B, p, q) < 0
}

// isTurn tells whether a ring does not go straight on from a border to the one behind it. It never goes straight back: there lies the border that it comes from.
func isTurn(border segment.Segment, next segment.Segment) bool {
	return place.Side(border.A, border.B, next.B) != 0
}
