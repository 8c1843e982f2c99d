// Package nest: which rings of a result are holes, and in which shells they lie.
package nest

import (
	"overlay/api"
	"overlay/place"
	"overlay/polygon"
)

// none: what stands for a ring that lies in no shell, as it is one itself.
const none = -1

// Shells gives for each ring of a result the number of its shell if it is a hole, else none (P8).
func Shells(rings [][]api.Point) []int {
	var shells []int
	for _, ring := range rings {
		shell := none
		// A hole has a first point: there it turns.
		if isHole(ring) {
			shell = innermost(ring[0], rings)
		}
		shells = append(shells, shell)
	}
	return shells
}

// isHole tells whether the ring turns to the right anywhere where it comes through its first point.
func isHole(ring []api.Point) bool {
	if len(ring) == 0 {
		return false
	}
	before := ring[len(ring)-1]
	for _, edge := range polygon.Edges([][]api.Point{ring}) {
		isFirst := place.Compare(edge.A, ring[0]) == 0
		if isFirst && place.Side(before, edge.A, edge.B) < 0 {
			return true
		}
		before = edge.A
	}
	return false
}

// innermost gives the number of that one of the shells inside which p lies of which no point is outside another one of them.
func innermost(p api.Point, rings [][]api.Point) int {
	inner := none
	for i, ring := range rings {
		if isHole(ring) {
			continue
		}
		if locate(ring, p) != api.In {
			continue
		}
		// As all these shells lie in one another, one that lies in the innermost so far lies in all of them so far.
		if inner == none || isWithin(ring, rings[inner]) {
			inner = i
		}
	}
	return inner
}

// isWithin tells whether no point of the ring is outside the other.
func isWithin(ring []api.Point, other []api.Point) bool {
	for _, p := range ring {
		if locate(other, p) == api.Out {
			return false
		}
	}
	return true
}

// locate tells where p lies to the polygon whose one ring this is.
func locate(ring []api.Point, p api.Point) int {
	// A result has good points alone, and no ring of it has as many as Locate refuses.
	where, _ := polygon.Locate([][]api.Point{ring}, p)
	return where
}
