package overlay

import (
	"math/big"
	"slices"
	"testing"

	"overlay/api"
)

type nestCase struct {
	name string
	op   int
	a, b [][]api.Point
	want []int
}

func runNests(t *testing.T, cases []nestCase) {
	t.Helper()
	for _, c := range cases {
		if l, e := Nest(c.op, c.a, c.b); !slices.Equal(l, c.want) || e != api.OK {
			list, _ := Clip(c.op, c.a, c.b)
			t.Errorf("%s: Nest(%d, %v, %v) = %v, %d, want %v of %v", c.name, c.op, c.a, c.b, l, e, c.want, list)
		}
	}
}

func TestNestOfTheDocumentP8(t *testing.T) {
	runNests(t, []nestCase{
		{"a hole", api.Minus, rings(box(0, 0, 6, 6)), rings(box(2, 2, 4, 4)), []int{-1, 0}},
		{"touches in a corner", api.Minus, rings(box(0, 0, 4, 4)), rings(ring(0, 0, 2, 1, 1, 2)), []int{-1}},
		{"box in box in box in box", api.Xor, rings(box(0, 0, 9, 9), box(3, 3, 6, 6)), rings(box(1, 1, 8, 8), box(4, 4, 5, 5)), []int{-1, 0, -1, 2}},
	})
}

func TestNestWithNothingP8(t *testing.T) {
	a, far := rings(box(0, 0, 4, 4)), rings(box(10, -3, 12, 9))
	hollow := rings(box(0, 0, 9, 9), box(3, 3, 6, 6))
	runNests(t, []nestCase{
		{"nothing or nothing", api.Or, nil, rings(), nil}, {"nothing with", api.And, nil, a, nil}, {"with itself", api.Xor, hollow, hollow, nil}, {"far apart", api.And, a, far, nil},
		{"with nothing", api.Or, a, nil, []int{-1}}, {"nothing with", api.Back, nil, a, []int{-1}}, {"far apart", api.Or, far, a, []int{-1, -1}},
		{"hollow", api.Or, hollow, nil, []int{-1, 0}}, {"hollow, with itself", api.And, hollow, hollow, []int{-1, 0}}, {"hollow, nothing with", api.Xor, nil, hollow, []int{-1, 0}},
		{"hollow, filled", api.Or, hollow, rings(box(3, 3, 6, 6)), []int{-1}},
	})
}

func TestNestTellsHolesP8(t *testing.T) {
	wide := rings(box(-1, -9, 9, 9))
	twoDown := rings(ring(0, 0, 4, -1, 4, -3), ring(0, 0, 4, 3, 4, 1))
	runNests(t, []nestCase{
		{"a dent at its first point's side", api.Or, rings(ring(0, 0, 8, 4, 0, 8, 3, 4)), nil, []int{-1}},
		{"two triangles that touch", api.Minus, rings(box(0, 0, 6, 4)), rings(ring(1, 1, 3, 2, 1, 3), ring(5, 1, 5, 3, 3, 2)), []int{-1, 0}},
		{"twice through its first point", api.Minus, wide, twoDown, []int{-1, 0}},
		{"the same, as shells", api.Or, twoDown, nil, []int{-1, -1}},
		{"thrice through its first point", api.Minus, wide, append(twoDown, ring(0, 0, 4, 5, 3, 5)), []int{-1, 0}},
		{"a shell twice through its first point", api.Minus, rings(ring(0, 4, 8, 0, 8, 8)), rings(ring(0, 4, 4, 3, 4, 5)), []int{-1}},
		{"a shell thrice through its first point", api.Minus, rings(ring(0, 4, 8, -8, 8, 16)), rings(ring(0, 4, 4, 3, 4, 4), ring(0, 4, 4, 6, 4, 5)), []int{-1}},
		{"a shell that touches itself at an edge", api.Minus, rings(box(0, 0, 4, 4)), rings(ring(2, 0, 3, 2, 1, 2)), []int{-1}},
		{"a hole that touches in two corners cuts in two", api.Minus, rings(box(0, 0, 8, 8)), rings(ring(0, 0, 6, 4, 8, 8, 4, 6)), []int{-1, -1}},
		{"off the grid", api.Minus, rings(box(-2, -2, 6, 6)), rings(ring(0, 0, 3, 1, 3, 0, 0, 1)), []int{-1, 0}},
		{"at the rim", api.Xor, rings(box(-64, -64, 64, 64)), rings(box(-63, -63, 63, 63)), []int{-1, 0}},
	})
}

func TestNestFindsShellsP8(t *testing.T) {
	hollow := rings(box(0, 0, 30, 30), box(2, 2, 28, 28))
	runNests(t, []nestCase{
		{"two holes", api.Minus, rings(box(0, 0, 9, 9)), rings(box(1, 1, 3, 3), box(5, 5, 7, 7)), []int{-1, 0, 0}},
		{"beside each other", api.Minus, rings(box(0, 0, 6, 6), box(10, 0, 16, 6)), rings(box(2, 2, 4, 4), box(12, 2, 14, 4)), []int{-1, 0, -1, 2}},
		{"above each other", api.Minus, rings(box(0, 10, 9, 16), box(1, 0, 8, 6)), rings(box(2, 2, 4, 4), box(3, 12, 5, 14)), []int{-1, -1, 1, 0}},
		{"two islands in a hole", api.Or, hollow, rings(box(4, 4, 8, 8), box(10, 4, 18, 8)), []int{-1, 0, -1, -1}},
		{"holes of islands in a hole", api.Xor, hollow, rings(box(4, 4, 14, 14), box(5, 5, 6, 6), box(15, 15, 18, 18)), []int{-1, 0, -1, 2, -1}},
		{"three deep", api.Xor, rings(box(0, 0, 30, 30), box(4, 4, 26, 26), box(8, 8, 22, 22)), rings(box(2, 2, 28, 28), box(6, 6, 24, 24), box(10, 10, 20, 20)), []int{-1, 0, -1, 2, -1, 4}},
		{"an island that touches the hole at its first point", api.Or, rings(box(0, 0, 9, 9), box(2, 2, 7, 7)), rings(ring(2, 2, 4, 3, 3, 4)), []int{-1, 0, -1}},
		{"an island that touches the hole at two points", api.Or, rings(box(0, 0, 9, 9), box(2, 2, 7, 7)), rings(ring(2, 2, 6, 3, 7, 7, 3, 6)), []int{-1, 0, -1}},
		{"in a pocket of a shell, and beside it", api.Minus, rings(box(0, 0, 27, 27), box(6, 6, 11, 11)), rings(ring(0, 0, 18, 9, 9, 18), box(7, 7, 9, 9), box(20, 2, 22, 4)), []int{-1, 0}},
		{"an island with a hole, in a pocket of a shell", api.Xor, rings(box(0, 0, 27, 27), box(6, 6, 11, 11)), rings(ring(0, 0, 18, 9, 9, 18), box(7, 7, 9, 9), box(20, 2, 22, 4)), []int{-1, -1, 1, 0}},
	})
}

// turnsRight tells whether the ring turns to the right anywhere where it comes through its first point.
func turnsRight(r []api.Point) bool {
	for i, p := range r {
		if compare(p, r[0]) == 0 && turn(r[(i+len(r)-1)%len(r)], p, r[(i+1)%len(r)]) < 0 {
			return true
		}
	}
	return false
}

// shellsAround: the numbers of the shells inside which the place p lies.
func shellsAround(list [][]api.Point, p api.Point) []int {
	var out []int
	for i, r := range list {
		if !turnsRight(r) && plainLocate(rings(r), p) == api.In {
			out = append(out, i)
		}
	}
	return out
}

// isInnermost tells whether no point of ring i is outside one of the others.
func isInnermost(list [][]api.Point, i int, others []int) bool {
	for _, k := range others {
		for _, p := range list[i] {
			if k != i && plainLocate(rings(list[k]), p) == api.Out {
				return false
			}
		}
	}
	return true
}

// plainNest answers as Nest should, by the document's words, from the rings of Clip. It answers -2 where there is not just one such shell.
func plainNest(list [][]api.Point) []int {
	var out []int
	for _, r := range list {
		if !turnsRight(r) {
			out = append(out, -1)
			continue
		}
		around := shellsAround(list, r[0])
		var inner []int
		for _, i := range around {
			if isInnermost(list, i, around) {
				inner = append(inner, i)
			}
		}
		if len(inner) != 1 {
			inner = []int{-2}
		}
		out = append(out, inner[0])
	}
	return out
}

// area: twice what the ring goes round, below 0 if it goes to the right.
func area(r []api.Point) *big.Rat {
	sum := new(big.Rat)
	for _, e := range edgesOf(rings(r)) {
		p, q := e[0], e[1]
		sum.Add(sum, big.NewRat(int64(p.X*q.Y-p.Y*q.X), int64(p.D*q.D)))
	}
	return sum
}

// nestByArea answers as Nest should, another way: what goes round to the right is a hole, and the least of the shells around it is its own.
func nestByArea(list [][]api.Point) []int {
	var out []int
	for _, r := range list {
		if area(r).Sign() > 0 {
			out = append(out, -1)
			continue
		}
		least := -2
		for i, s := range list {
			if area(s).Sign() > 0 && plainLocate(rings(s), r[0]) == api.In && (least == -2 || area(s).Cmp(area(list[least])) < 0) {
				least = i
			}
		}
		out = append(out, least)
	}
	return out
}

// catch: how often what is rare came in the nests.
type catch struct{ holes, later, deep, holeAgain, shellAgain, onShell int }

func (n *catch) add(list [][]api.Point, nest []int) {
	for i, r := range list {
		again := slices.Index(r[1:], r[0]) >= 0
		if nest[i] == -1 {
			if again {
				n.shellAgain++
			}
			continue
		}
		n.holes++
		if nest[i] > 0 {
			n.later++
		}
		if len(shellsAround(list, r[0])) > 1 {
			n.deep++
		}
		if again {
			n.holeAgain++
		}
		for k, s := range list {
			if nest[k] == -1 && plainLocate(rings(s), r[0]) == api.On {
				n.onShell++
			}
		}
	}
}

func compareNests(t *testing.T, seen *catch, a, b [][]api.Point) {
	t.Helper()
	for op := range 5 {
		list, _ := Clip(op, a, b)
		l, e := Nest(op, a, b)
		want := plainNest(list)
		if !slices.Equal(l, want) || !slices.Equal(l, nestByArea(list)) || e != api.OK {
			t.Errorf("Nest(%d, %v, %v) = %v, %d, want %v, by area %v, of %v", op, a, b, l, e, want, nestByArea(list), list)
			continue
		}
		seen.add(list, l)
	}
}

func TestNestOnSmallGridP8(t *testing.T) {
	var thrown dice
	var seen catch
	shapes := [][]int{{3}, {4}, {5}, {3, 3}, {6}, {4, 3}}
	for i := range 900 {
		a := throwChecked(t, &thrown, 2, shapes[i%6]...)
		b := throwChecked(t, &thrown, 2, shapes[i/6%6]...)
		compareNests(t, &seen, a, b)
		// What is between them and a frame about them is full of holes.
		compareNests(t, &seen, append(a, box(-3, -3, 3, 3)), b)
	}
	if min(seen.holes, seen.onShell) < 100 || min(seen.later, seen.holeAgain, seen.shellAgain) < 10 {
		t.Errorf("too little of what is rare came: %+v", seen)
	}
}

// throwBoxes gives three boxes about the middle, that Check takes.
func throwBoxes(t *testing.T, thrown *dice) [][]api.Point {
	t.Helper()
	for range 10000 {
		var p [][]api.Point
		for range 3 {
			x, y, r := thrown.upTo(2), thrown.upTo(2), 16+thrown.upTo(15)
			p = append(p, box(x-r, y-r, x+r, y+r))
		}
		if e, _ := Check(p); e == api.OK {
			return p
		}
	}
	t.Fatal("no boxes were thrown")
	return nil
}

func TestNestOfBoxesP8(t *testing.T) {
	var thrown dice
	var seen catch
	for range 300 {
		a := throwBoxes(t, &thrown)
		b := throwBoxes(t, &thrown)
		compareNests(t, &seen, a, b)
	}
	if min(seen.holes, seen.later, seen.deep) < 300 {
		t.Errorf("too little of what is rare came: %+v", seen)
	}
}

func TestNestOnWholeGridP8(t *testing.T) {
	var thrown dice
	var seen catch
	for _, lengths := range [][]int{{12}, {3, 3, 3, 3}, {7, 5}, {4, 8}, {3}, {9, 3}} {
		a := throwChecked(t, &thrown, 64, lengths...)
		b := throwChecked(t, &thrown, 64, 12)
		compareNests(t, &seen, a, b)
	}
	compareNests(t, &seen, rings(star(11, 0)), rings(star(11, 1)))
	if seen.holes < 10 {
		t.Errorf("too few holes came: %+v", seen)
	}
}

func TestNestOfPolygonsGivenOtherwiseP8(t *testing.T) {
	var thrown dice
	swapped := [5]int{api.And: api.And, api.Or: api.Or, api.Minus: api.Back, api.Back: api.Minus, api.Xor: api.Xor}
	for range 100 {
		a, b := throwBoxes(t, &thrown), throwBoxes(t, &thrown)
		for op := range 5 {
			want, _ := Nest(op, a, b)
			if l, e := Nest(op, otherwise(a), otherwise(b)); !slices.Equal(l, want) || e != api.OK {
				t.Errorf("Nest(%d, %v, %v) = %v, of the same otherwise %v, %d", op, a, b, want, l, e)
			}
			if l, e := Nest(swapped[op], b, a); !slices.Equal(l, want) || e != api.OK {
				t.Errorf("Nest(%d, %v, %v) = %v, swapped %v, %d", op, a, b, want, l, e)
			}
		}
	}
}

func TestNestRefusesP8(t *testing.T) {
	for _, c := range slices.Concat(badOps(), badPolygons()) {
		if l, e := Nest(c.op, c.a, c.b); l != nil || e != c.want {
			t.Errorf("Nest(%d, %v, %v) = %v, %d, want %d", c.op, c.a, c.b, l, e, c.want)
		}
	}
}
