package border

import (
	"overlay/api"
	"overlay/place"
)

// Rings gives the rings of the result of op, one of the operations, from the pieces of two polygons (P7).
func Rings(op int, pieces []api.Piece) [][]api.Point {
	borders := bordersOf(op, pieces)
	next := followers(borders)
	isTaken := make([]bool, len(borders))
	var rings [][]api.Point
	for i := range borders {
		var ring []api.Point
		// Each round takes one more border: so there is an end to them.
		for k := i; !isTaken[k]; k = next[k] {
			isTaken[k] = true
			if isTurn(borders[k], borders[next[k]]) {
				ring = append(ring, borders[k].B)
			}
		}
		// Each ring turns somewhere: without points is only what begins at a border that is in a ring already.
		if len(ring) > 0 {
			list := fromLeast(ring)
			rings = insert(rings, list)
		}
	}
	return rings
}

// fromLeast gives the ring written from that one of its points on which makes the list least in the order of lists.
func fromLeast(ring []api.Point) []api.Point {
	var least []api.Point
	for i := range ring {
		var list []api.Point
		list = append(list, ring[i:]...)
		list = append(list, ring[:i]...)
		if i == 0 || place.CompareLists(list, least) < 0 {
			least = list
		}
	}
	return least
}

// insert lays the ring into a list of rings that is in the order of lists.
func insert(rings [][]api.Point, ring []api.Point) [][]api.Point {
	i := len(rings)
	for i > 0 && place.CompareLists(ring, rings[i-1]) < 0 {
		i--
	}
	rings = append(rings, ring)
	for j := len(rings) - 1; j > i; j-- {
		rings[j] = rings[j-1]
	}
	rings[i] = ring
	return rings
}
