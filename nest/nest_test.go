package nest

import (
	"slices"
	"testing"

	"overlay/api"
)

// ring: of coordinates, two and two.
func ring(l ...int) []api.Point {
	var out []api.Point
	for i := 0; i+1 < len(l); i += 2 {
		out = append(out, api.Point{X: l[i], Y: l[i+1], D: 1})
	}
	return out
}

func box(x0, y0, x1, y1 int) []api.Point { return ring(x0, y0, x1, y0, x1, y1, x0, y1) }

// hole: a box, gone round to the right.
func hole(x0, y0, x1, y1 int) []api.Point { return ring(x0, y0, x0, y1, x1, y1, x1, y0) }

func TestIsHole(t *testing.T) {
	for _, c := range []struct {
		name string
		ring []api.Point
		want bool
	}{
		{"no point", nil, false},
		{"to the left", box(0, 0, 4, 4), false},
		{"to the right", hole(0, 0, 4, 4), true},
		{"to the left, with a dent", ring(0, 0, 4, 0, 1, 1, 0, 4), false},
		{"to the right, with a dent", ring(0, 0, 0, 4, 1, 1, 4, 0), true},
		{"twice through its first point, both to the left", ring(0, 0, 1, 2, 2, 1, 0, 0, 4, 0, 4, 4, 0, 4), false},
		{"twice, to the right the second time", ring(0, 0, 2, -1, 2, -3, 0, 0, 2, 3, 2, 1), true},
		{"twice, to the right the first time", ring(0, 0, 2, 3, 2, 1, 0, 0, 2, -1, 2, -3), true},
		{"thrice, to the right the second time", ring(0, 0, 4, -2, 4, -3, 0, 0, 4, 3, 4, 2, 0, 0, 4, 1, 4, -1), true},
		{"thrice, to the right the third time", ring(0, 0, 4, 1, 4, -1, 0, 0, 4, -2, 4, -3, 0, 0, 4, 3, 4, 2), true},
		{"straight on at its first point", ring(1, 0, 2, 0, 2, 2, 0, 0), false},
		{"a right turn at another point", ring(0, 0, 4, -4, 2, 0, 4, 4), false},
		{"its first point's place by another point", []api.Point{{X: 0, Y: 1, D: 1}, {X: 2, Y: 0, D: 1}, {X: 2, Y: -2, D: 1}, {X: 0, Y: 2, D: 2}, {X: 2, Y: 4, D: 1}, {X: 2, Y: 2, D: 1}}, true},
		{"off the grid", []api.Point{{X: 1, Y: 1, D: 2}, {X: 1, Y: 4, D: 2}, {X: 4, Y: 4, D: 3}}, true},
	} {
		if isHole(c.ring) != c.want {
			t.Errorf("%s: that %v is a hole is %v", c.name, c.ring, !c.want)
		}
	}
}

func TestIsWithin(t *testing.T) {
	wide := box(0, 0, 8, 8)
	for _, c := range []struct {
		ring, other []api.Point
		want        bool
	}{
		{box(1, 1, 3, 3), wide, true}, {wide, box(1, 1, 3, 3), false}, {wide, wide, true}, {box(9, 9, 12, 12), wide, false},
		{ring(0, 0, 8, 4, 4, 8), wide, true}, {ring(1, 1, 9, 4, 3, 4), wide, false}, {ring(9, 4, 3, 4, 1, 1), wide, false}, {ring(3, 4, 1, 1, 9, 4), wide, false},
	} {
		if isWithin(c.ring, c.other) != c.want {
			t.Errorf("that %v is within %v is %v", c.ring, c.other, !c.want)
		}
	}
}

// TestShells: the rings in each order, so that the innermost of the shells is now the first, now the last of them.
func TestShells(t *testing.T) {
	all := [][]api.Point{box(0, 0, 20, 20), hole(1, 1, 19, 19), box(2, 2, 18, 18), hole(3, 3, 17, 17), box(4, 4, 7, 7), hole(5, 5, 6, 6)}
	around := []int{none, 0, none, 2, none, 4}
	orders := [][]int{{}}
	for i := range all {
		var longer [][]int
		for _, order := range orders {
			for k := range i + 1 {
				longer = append(longer, slices.Insert(slices.Clone(order), k, i))
			}
		}
		orders = longer
	}
	for _, order := range orders {
		var rings [][]api.Point
		var want []int
		for _, i := range order {
			rings = append(rings, all[i])
			// No ring has the number none, so none stays what it is.
			want = append(want, slices.Index(order, around[i]))
		}
		if got := Shells(rings); !slices.Equal(got, want) {
			t.Errorf("Shells(%v) = %v, want %v", rings, got, want)
		}
	}
	if len(orders) != 720 {
		t.Errorf("there are %d orders", len(orders))
	}
}

func TestShellsOfFew(t *testing.T) {
	for _, c := range []struct {
		name  string
		rings [][]api.Point
		want  []int
	}{
		{"no ring", nil, nil},
		{"beside each other", [][]api.Point{box(0, 0, 4, 4), hole(1, 1, 2, 2), box(5, 0, 9, 4), hole(6, 1, 7, 2)}, []int{none, 0, none, 2}},
		{"on the edge of a shell", [][]api.Point{box(0, 0, 9, 9), hole(2, 2, 7, 7), ring(2, 2, 4, 3, 3, 4)}, []int{none, 0, none}},
		{"a hole in a hole", [][]api.Point{box(0, 0, 9, 9), hole(1, 1, 8, 8), hole(2, 2, 7, 7)}, []int{none, 0, 0}},
		{"the first point alone in a shell", [][]api.Point{box(0, 0, 4, 4), ring(1, 1, 9, 9, 9, 1)}, []int{none, 0}},
		{"in a pocket of a shell, and beside it", [][]api.Point{ring(0, 0, 9, 18, 18, 9, 0, 0, 27, 0, 27, 27, 0, 27), box(6, 6, 11, 11), hole(7, 7, 9, 9), hole(20, 2, 22, 4)}, []int{none, none, 1, 0}},
	} {
		if got := Shells(c.rings); !slices.Equal(got, c.want) {
			t.Errorf("%s: Shells(%v) = %v, want %v", c.name, c.rings, got, c.want)
		}
	}
}
