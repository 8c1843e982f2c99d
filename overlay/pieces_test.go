package overlay

import (
	"math/big"
	"slices"
	"testing"

	"overlay/api"
)

// piece: its sides as letters: those that are inside, of lr (left and right of a) and LR (left and right of b).
func piece(p, q api.Point, sides string) api.Piece {
	out := api.Piece{P: p, Q: q}
	for _, s := range sides {
		out.LeftA = out.LeftA || s == 'l'
		out.RightA = out.RightA || s == 'r'
		out.LeftB = out.LeftB || s == 'L'
		out.RightB = out.RightB || s == 'R'
	}
	return out
}

func TestPiecesP6(t *testing.T) {
	for _, c := range []struct {
		name string
		a, b [][]api.Point
		want []api.Piece
	}{
		{"nothing", nil, rings(), nil},
		{"a alone", rings(ring(0, 0, 4, 0, 0, 4)), nil, []api.Piece{
			piece(at(0, 0), at(0, 4), "r"), piece(at(0, 0), at(4, 0), "l"), piece(at(0, 4), at(4, 0), "r")}},
		{"b alone, the other way round", nil, rings(ring(0, 4, 4, 0, 0, 0)), []api.Piece{
			piece(at(0, 0), at(0, 4), "R"), piece(at(0, 0), at(4, 0), "L"), piece(at(0, 4), at(4, 0), "R")}},
		{"both the same", rings(ring(0, 0, 4, 0, 0, 4)), rings(ring(0, 4, 4, 0, 0, 0)), []api.Piece{
			piece(at(0, 0), at(0, 4), "rR"), piece(at(0, 0), at(4, 0), "lL"), piece(at(0, 4), at(4, 0), "rR")}},
		{"document: two boxes", rings(box(0, 0, 4, 4)), rings(box(2, 2, 6, 6)), []api.Piece{
			piece(at(0, 0), at(0, 4), "r"), piece(at(0, 0), at(4, 0), "l"), piece(at(0, 4), at(2, 4), "r"),
			piece(at(2, 2), at(2, 4), "lrR"), piece(at(2, 2), at(4, 2), "lrL"), piece(at(2, 4), at(2, 6), "R"),
			piece(at(2, 4), at(4, 4), "rLR"), piece(at(2, 6), at(6, 6), "R"), piece(at(4, 0), at(4, 2), "l"),
			piece(at(4, 2), at(4, 4), "lLR"), piece(at(4, 2), at(6, 2), "L"), piece(at(6, 2), at(6, 6), "L")}},
		{"an edge within an edge", rings(ring(0, 0, 6, 0, 3, 3)), rings(ring(2, 0, 4, 0, 3, -3)), []api.Piece{
			piece(at(0, 0), at(2, 0), "l"), piece(at(0, 0), at(3, 3), "r"), piece(at(2, 0), at(3, -3), "L"), piece(at(2, 0), at(4, 0), "lR"),
			piece(at(3, -3), at(4, 0), "L"), piece(at(3, 3), at(6, 0), "r"), piece(at(4, 0), at(6, 0), "l")}},
		{"a point on which it goes straight on", rings(ring(0, 0, 2, 0, 4, 0, 0, 4)), nil, []api.Piece{
			piece(at(0, 0), at(0, 4), "r"), piece(at(0, 0), at(2, 0), "l"), piece(at(0, 4), at(4, 0), "r"), piece(at(2, 0), at(4, 0), "l")}},
		{"a corner of b on which an edge of a is cut", rings(ring(0, 0, 4, 0, 0, 4)), rings(ring(2, 0, 4, -4, 0, -4)), []api.Piece{
			piece(at(0, -4), at(2, 0), "R"), piece(at(0, -4), at(4, -4), "L"), piece(at(0, 0), at(0, 4), "r"), piece(at(0, 0), at(2, 0), "l"),
			piece(at(0, 4), at(4, 0), "r"), piece(at(2, 0), at(4, -4), "R"), piece(at(2, 0), at(4, 0), "l")}},
		{"a spot of one polygon's own, off the grid", rings(ring(0, 0, 3, 1, 3, 0, 0, 1)), nil, []api.Piece{
			piece(at(0, 0), at(0, 1), "r"), piece(at(0, 0), over(3, 1, 2), "l"), piece(at(0, 1), over(3, 1, 2), "r"),
			piece(over(3, 1, 2), at(3, 0), "l"), piece(over(3, 1, 2), at(3, 1), "r"), piece(at(3, 0), at(3, 1), "l")}},
		{"a hole", rings(box(0, 0, 9, 9), ring(3, 3, 6, 3, 3, 6)), nil, []api.Piece{
			piece(at(0, 0), at(0, 9), "r"), piece(at(0, 0), at(9, 0), "l"), piece(at(0, 9), at(9, 9), "r"), piece(at(3, 3), at(3, 6), "l"),
			piece(at(3, 3), at(6, 3), "r"), piece(at(3, 6), at(6, 3), "l"), piece(at(9, 0), at(9, 9), "l")}},
	} {
		if l, e := Pieces(c.a, c.b); !slices.Equal(l, c.want) || e != api.OK {
			t.Errorf("%s: Pieces(%v, %v) = %+v, %d, want %+v", c.name, c.a, c.b, l, e, c.want)
		}
	}
}

// compare: by x, then by y, as numbers.
func compare(p, q api.Point) int {
	x := big.NewRat(int64(p.X), int64(p.D)).Cmp(big.NewRat(int64(q.X), int64(q.D)))
	if x != 0 {
		return x
	}
	return big.NewRat(int64(p.Y), int64(p.D)).Cmp(big.NewRat(int64(q.Y), int64(q.D)))
}

// plainSpots: the spots on the edge from a to b, in the order of places.
func plainSpots(a, b api.Point, edges [][2]api.Point) []api.Point {
	out := []api.Point{a, b}
	for _, e := range edges {
		m, _ := Meet(a, b, e[0], e[1])
		if m.Kind >= api.Touch {
			out = append(out, m.P)
		}
		if m.Kind == api.Along {
			out = append(out, m.Q)
		}
	}
	slices.SortFunc(out, compare)
	return slices.Compact(out)
}

// beside: the place half way from p to q, a hair to the left of it if way is 1, to the right if it is -1; as X, Y and D.
func beside(p, q api.Point, way int) [3]*big.Int {
	number := func(middle, hair int) *big.Int {
		out := big.NewInt(int64(middle))
		return out.Add(out.Lsh(out, 100), big.NewInt(int64(hair)))
	}
	goneX, goneY := q.X*p.D-p.X*q.D, q.Y*p.D-p.Y*q.D
	return [3]*big.Int{number(p.X*q.D+q.X*p.D, -way*goneY), number(p.Y*q.D+q.Y*p.D, way*goneX), number(2*p.D*q.D, 0)}
}

// plainInside tells whether q, which is on no edge, is inside: by the edges to the right of it.
func plainInside(edges [][2]api.Point, q [3]*big.Int) bool {
	// reckon gives n - k*d
	reckon := func(n *big.Int, k int) *big.Int {
		out := big.NewInt(int64(-k))
		out.Mul(out, q[2])
		return out.Add(out, n)
	}
	inside := false
	for _, e := range edges {
		a, b := e[0], e[1]
		if a.Y > b.Y {
			a, b = b, a
		}
		if reckon(q[1], a.Y).Sign() < 0 || reckon(q[1], b.Y).Sign() >= 0 {
			continue
		}
		up := reckon(q[1], a.Y)
		up.Mul(up, big.NewInt(int64(b.X-a.X)))
		right := reckon(q[0], a.X)
		right.Mul(right, big.NewInt(int64(b.Y-a.Y)))
		if right.Cmp(up) < 0 {
			inside = !inside
		}
	}
	return inside
}

// plainPieces answers as Pieces should, by the document's words.
func plainPieces(a, b [][]api.Point) []api.Piece {
	edgesA, edgesB := edgesOf(a), edgesOf(b)
	edges := slices.Concat(edgesA, edgesB)
	cuts := map[[2]api.Point]bool{}
	for _, e := range edges {
		l := plainSpots(e[0], e[1], edges)
		for i := range len(l) - 1 {
			cuts[[2]api.Point{l[i], l[i+1]}] = true
		}
	}
	var out []api.Piece
	for c := range cuts {
		left, right := beside(c[0], c[1], 1), beside(c[0], c[1], -1)
		out = append(out, api.Piece{P: c[0], Q: c[1],
			LeftA: plainInside(edgesA, left), RightA: plainInside(edgesA, right), LeftB: plainInside(edgesB, left), RightB: plainInside(edgesB, right)})
	}
	slices.SortFunc(out, func(p, q api.Piece) int {
		if n := compare(p.P, q.P); n != 0 {
			return n
		}
		return compare(p.Q, q.Q)
	})
	return out
}

// throwChecked gives a polygon that Check takes, with so many points in each ring.
func throwChecked(t *testing.T, thrown *dice, n int, lengths ...int) [][]api.Point {
	t.Helper()
	for range 10000 {
		var p [][]api.Point
		for _, length := range lengths {
			var r []api.Point
			for range length {
				r = append(r, thrown.point(n))
			}
			p = append(p, r)
		}
		if e, _ := Check(p); e == api.OK {
			return p
		}
	}
	t.Fatalf("no polygon of %v points was thrown", lengths)
	return nil
}

// tally: how often what is rare came in the pieces.
type tally struct{ pieces, shared, offGrid, upright, bothIn int }

func (n *tally) add(l []api.Piece) {
	for _, x := range l {
		n.pieces++
		if x.LeftA != x.RightA && x.LeftB != x.RightB {
			n.shared++
		}
		if x.P.D > 1 {
			n.offGrid++
		}
		if x.P.X*x.Q.D == x.Q.X*x.P.D {
			n.upright++
		}
		if x.LeftA && x.RightA || x.LeftB && x.RightB {
			n.bothIn++
		}
	}
}

func comparePieces(t *testing.T, seen *tally, a, b [][]api.Point) {
	t.Helper()
	l, e := Pieces(a, b)
	if want := plainPieces(a, b); !slices.Equal(l, want) || e != api.OK {
		t.Errorf("Pieces(%v, %v) = %+v, %d, want %+v", a, b, l, e, want)
	}
	seen.add(l)
}

func TestPiecesOnSmallGridP6(t *testing.T) {
	var thrown dice
	var seen tally
	shapes := [][]int{{3}, {4}, {5}, {3, 3}, {6}, {4, 3}}
	for i := range 1200 {
		a := throwChecked(t, &thrown, 2, shapes[i%6]...)
		b := throwChecked(t, &thrown, 2, shapes[i/6%6]...)
		comparePieces(t, &seen, a, b)
	}
	if min(seen.shared, seen.offGrid, seen.upright, seen.bothIn) < 500 {
		t.Errorf("too little of what is rare came: %+v", seen)
	}
}

func TestPiecesOnWholeGridP6(t *testing.T) {
	var thrown dice
	var seen tally
	for _, lengths := range [][]int{{12}, {3, 3, 3, 3}, {7, 5}, {4, 8}, {3}, {9, 3}} {
		a := throwChecked(t, &thrown, 64, lengths...)
		b := throwChecked(t, &thrown, 64, 12)
		comparePieces(t, &seen, a, b)
		comparePieces(t, &seen, b, a)
		comparePieces(t, &seen, a, a)
	}
	if seen.offGrid < 1000 {
		t.Errorf("too few spots off the grid came: %+v", seen)
	}
}

// star: a ring of n points (n is odd) on a wide arc, each edge of which crosses nearly all others.
func star(n, shift int) []api.Point {
	arc := ring(64, 0+shift, 57, 28+shift, 38, 51+shift, 12, 62+shift, -18, 61+shift, -43, 47+shift, -60, 22+shift, -64, -6+shift, -53, -36+shift, -31, -56+shift, -2, -64+shift)
	var out []api.Point
	for i := range n {
		out = append(out, arc[i*(n/2)%n])
	}
	return out
}

func TestPiecesOfStarsP6(t *testing.T) {
	var seen tally
	comparePieces(t, &seen, rings(star(11, 0)), rings(star(11, 1)))
	comparePieces(t, &seen, rings(star(11, 0)), rings(star(9, 2)))
	if seen.pieces < 500 {
		t.Errorf("the stars have few pieces: %+v", seen)
	}
}

func TestPiecesComeGoodP6(t *testing.T) {
	var thrown dice
	for range 20 {
		a := throwChecked(t, &thrown, 64, 6, 6)
		b := throwChecked(t, &thrown, 64, 4, 8)
		l, _ := Pieces(a, b)
		for _, x := range l {
			if !isGoodPoint(x.P) || !isGoodPoint(x.Q) || !inLeastTerms(x.P) || !inLeastTerms(x.Q) {
				t.Errorf("Pieces(%v, %v) has %+v", a, b, x)
			}
		}
	}
}

// faults: polygons that Check does not take, with its errors, in the order of their numbers.
func faults() [][][]api.Point {
	return [][][]api.Point{
		make([][]api.Point, 5), rings(ring(0, 0, 1, 1)), rings(ring(0, 0, 65, 1, 1, 1)), rings(ring(0, 0, 0, 0, 1, 1)), rings(ring(0, 0, 2, 0, 1, 0)),
	}
}

func refusesPieces(t *testing.T, a, b [][]api.Point, want api.Errno) {
	t.Helper()
	if l, e := Pieces(a, b); l != nil || e != want {
		t.Errorf("Pieces(%v, %v) = %v, %d, want %d", a, b, l, e, want)
	}
}

func TestPiecesRefusesP6(t *testing.T) {
	good := rings(box(0, 0, 4, 4))
	for i, bad := range faults() {
		want := api.ErrRings + api.Errno(i)
		refusesPieces(t, bad, good, want)
		refusesPieces(t, good, bad, want)
		refusesPieces(t, nil, bad, want)
		for _, other := range faults() {
			refusesPieces(t, bad, other, want)
		}
	}
	for _, bad := range badPoints() {
		p := rings([]api.Point{at(0, 0), bad, at(0, 4)})
		refusesPieces(t, p, good, api.ErrPoint)
		refusesPieces(t, good, p, api.ErrPoint)
	}
	refusesPieces(t, good, rings(make([]api.Point, 13)), api.ErrCount)
	refusesPieces(t, rings(box(0, 0, 4, 4), box(4, 4, 8, 8), box(9, 9, 12, 12), ring(20, 20)), good, api.ErrCount)
}
