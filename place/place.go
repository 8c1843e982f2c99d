// Package place: points as places of the plane.
package place

import "overlay/api"

// IsGood tells whether p is a good point.
func IsGood(p api.Point) bool {
	if p.D < 1 || p.D > api.MaxDen {
		return false
	}
	rim := api.MaxCoord * p.D
	if p.X < -rim || p.X > rim {
		return false
	}
	return p.Y >= -rim && p.Y <= rim
}

// IsGrid tells whether p is a grid point.
func IsGrid(p api.Point) bool {
	if p.D != 1 {
		return false
	}
	return IsGood(p)
}

// Compare answers a number below 0 if the good point p is ahead of the good point q in the order of places, 0 if they are the same place, else one above 0.
func Compare(p api.Point, q api.Point) int {
	x := p.X*q.D - q.X*p.D
	if x != 0 {
		return x
	}
	return p.Y*q.D - q.Y*p.D
}

// CompareLists answers a number below 0 if the list l of good points is ahead of the list m in the order of lists, 0 if they are the same places throughout, else one above 0.
func CompareLists(l []api.Point, m []api.Point) int {
	for i, p := range l {
		if i >= len(m) {
			break
		}
		order := Compare(p, m[i])
		if order != 0 {
			return order
		}
	}
	return len(l) - len(m)
}

// First gives the one of two good points that is ahead in the order of places.
func First(p api.Point, q api.Point) api.Point {
	if Compare(q, p) < 0 {
		return q
	}
	return p
}

// Last gives the one of two good points that is behind in the order of places.
func Last(p api.Point, q api.Point) api.Point {
	if Compare(q, p) > 0 {
		return q
	}
	return p
}

// Side is 0 if the good point p lies on one line with the good points a and b, above 0 if it lies to the left of one who goes from a to b, below 0 if to the right.
func Side(a api.Point, b api.Point, p api.Point) int {
	// The determinant of three good points stays within 64 bits; that of the places themselves has the same sign, as no D is below 0.
	byX := a.Y*b.D - b.Y*a.D
	byY := b.X*a.D - a.X*b.D
	byD := a.X*b.Y - b.X*a.Y
	return byX*p.X + byY*p.Y + byD*p.D
}

// Least gives the point in least terms that means the place of p.
func Least(p api.Point) api.Point {
	g := divisor(p.X, p.Y)
	g = divisor(g, p.D)
	if g == 0 {
		return p
	}
	return api.Point{X: p.X / g, Y: p.Y / g, D: p.D / g}
}

// divisor gives the greatest number that divides both a and b: 0 if both are 0.
func divisor(a int, b int) int {
	for b != 0 {
		a, b = b, a%b
	}
	if a < 0 {
		return -a
	}
	return a
}
