package place

import (
	"math"
	"testing"

	"overlay/api"
)

func TestIsGood(t *testing.T) {
	const m = api.MaxDen
	for _, p := range []api.Point{
		{D: 1}, {D: m}, {X: 64, Y: -64, D: 1}, {X: -64, Y: 64, D: 1}, {X: 2, Y: 2, D: 2},
		{X: 128, Y: -128, D: 2}, {X: 64 * m, Y: -64 * m, D: m}, {X: -64 * m, Y: 64 * m, D: m},
	} {
		if !IsGood(p) {
			t.Errorf("IsGood(%v) is false", p)
		}
	}
	for _, p := range []api.Point{
		{}, {D: -1}, {D: m + 1}, {X: 1, Y: 1, D: -1}, {D: math.MinInt}, {D: math.MaxInt}, {D: 1<<32 + 1},
		{X: 65, D: 1}, {X: -65, D: 1}, {Y: 65, D: 1}, {Y: -65, D: 1},
		{X: 129, D: 2}, {X: -129, D: 2}, {Y: 129, D: 2}, {Y: -129, D: 2},
		{X: 64*m + 1, D: m}, {X: -64*m - 1, D: m}, {Y: 64*m + 1, D: m}, {Y: -64*m - 1, D: m},
		{X: math.MinInt, D: m}, {X: math.MaxInt, D: m}, {Y: math.MinInt, D: m}, {Y: math.MaxInt, D: m},
	} {
		if IsGood(p) {
			t.Errorf("IsGood(%v) is true", p)
		}
	}
}

func TestIsGrid(t *testing.T) {
	for _, p := range []api.Point{{X: 0, Y: 0, D: 1}, {X: 64, Y: -64, D: 1}, {X: -64, Y: 64, D: 1}} {
		if !IsGrid(p) {
			t.Errorf("IsGrid(%v) is false", p)
		}
	}
	for _, p := range []api.Point{
		{}, {D: -1}, {D: 2}, {X: 2, Y: 2, D: 2}, {D: math.MinInt}, {D: math.MaxInt},
		{X: 65, D: 1}, {X: -65, D: 1}, {Y: 65, D: 1}, {Y: -65, D: 1},
		{X: math.MinInt, D: 1}, {X: math.MaxInt, D: 1}, {Y: math.MinInt, D: 1}, {Y: math.MaxInt, D: 1},
	} {
		if IsGrid(p) {
			t.Errorf("IsGrid(%v) is true", p)
		}
	}
}

func sign(n int) int {
	if n < 0 {
		return -1
	}
	if n > 0 {
		return 1
	}
	return 0
}

func TestCompare(t *testing.T) {
	const m = api.MaxDen
	for _, c := range []struct {
		p, q api.Point
		want int
	}{
		{api.Point{X: 1, Y: 5, D: 1}, api.Point{X: 2, Y: 0, D: 1}, -1},
		{api.Point{X: 1, Y: 1, D: 1}, api.Point{X: 1, Y: 2, D: 1}, -1},
		{api.Point{X: -1, Y: 1, D: 1}, api.Point{X: 1, Y: -1, D: 1}, -1},
		{api.Point{X: 1, Y: 0, D: 2}, api.Point{X: 1, Y: 0, D: 1}, -1},
		{api.Point{X: 1, Y: 1, D: 3}, api.Point{X: 1, Y: 1, D: 2}, -1},
		{api.Point{X: -1, Y: 0, D: 2}, api.Point{X: -1, Y: 0, D: 3}, -1},
		{api.Point{X: 2, Y: 4, D: 2}, api.Point{X: 1, Y: 2, D: 1}, 0},
		{api.Point{X: 64*m - 1, Y: 0, D: m}, api.Point{X: 64, Y: 0, D: 1}, -1},
		{api.Point{X: -64 * m, Y: -64 * m, D: m}, api.Point{X: 64*m - 64, Y: 0, D: m - 1}, -1},
	} {
		there, back := Compare(c.p, c.q), Compare(c.q, c.p)
		if sign(there) != c.want || sign(back) != -c.want {
			t.Errorf("Compare(%v, %v) = %d, the other way %d, want sign %d", c.p, c.q, there, back, c.want)
		}
	}
}

func TestFirstAndLast(t *testing.T) {
	p, q := api.Point{X: 1, Y: 5, D: 2}, api.Point{X: 1, Y: 0, D: 1}
	if First(p, q) != p || First(q, p) != p {
		t.Errorf("First is not %v", p)
	}
	if Last(p, q) != q || Last(q, p) != q {
		t.Errorf("Last is not %v", q)
	}
}

func TestSide(t *testing.T) {
	const m = api.MaxDen
	for _, c := range []struct {
		a, b, p api.Point
		want    int
	}{
		{api.Point{D: 1}, api.Point{X: 4, Y: 2, D: 1}, api.Point{X: 1, Y: 1, D: 1}, 1},
		{api.Point{D: 1}, api.Point{X: 4, Y: 2, D: 1}, api.Point{X: 1, Y: 0, D: 1}, -1},
		{api.Point{D: 1}, api.Point{X: 4, Y: 2, D: 1}, api.Point{X: -2, Y: -1, D: 1}, 0},
		{api.Point{D: 7}, api.Point{X: 3, Y: 3, D: 2}, api.Point{X: 5, Y: 5, D: 9}, 0},
		{api.Point{X: 1, Y: 2, D: 3}, api.Point{X: 3, Y: 6, D: 9}, api.Point{X: 5, Y: 4, D: 1}, 0},
		{api.Point{X: 1, Y: 0, D: 2}, api.Point{X: 1, Y: 2, D: 2}, api.Point{X: 1, Y: 1, D: 3}, 1},
		{api.Point{X: 1, Y: 0, D: 2}, api.Point{X: 1, Y: 2, D: 2}, api.Point{X: 2, Y: 1, D: 3}, -1},
		{api.Point{X: -64 * m, Y: -64 * m, D: m}, api.Point{X: 64 * m, Y: -64 * m, D: m}, api.Point{X: 64 * m, Y: 64 * m, D: m}, 1},
		{api.Point{X: -64 * m, Y: -64 * m, D: m}, api.Point{X: 64 * m, Y: 64 * m, D: m}, api.Point{X: m - 1, Y: m - 2, D: m - 3}, -1},
		{api.Point{X: -64 * m, Y: -64 * m, D: m}, api.Point{X: 64 * m, Y: 64 * m, D: m}, api.Point{X: 5, Y: 5, D: m - 1}, 0},
	} {
		for _, l := range [][3]api.Point{{c.a, c.b, c.p}, {c.b, c.p, c.a}, {c.p, c.a, c.b}} {
			there, back := Side(l[0], l[1], l[2]), Side(l[1], l[0], l[2])
			if sign(there) != c.want || sign(back) != -c.want {
				t.Errorf("Side(%v) = %d, the other way %d, want sign %d", l, there, back, c.want)
			}
		}
	}
}

func TestLeast(t *testing.T) {
	for _, c := range []struct{ p, want api.Point }{
		{api.Point{X: 6, Y: 4, D: 2}, api.Point{X: 3, Y: 2, D: 1}},
		{api.Point{X: -6, Y: 9, D: 12}, api.Point{X: -2, Y: 3, D: 4}},
		{api.Point{X: 6, Y: -9, D: 12}, api.Point{X: 2, Y: -3, D: 4}},
		{api.Point{X: 0, Y: 0, D: 7}, api.Point{X: 0, Y: 0, D: 1}},
		{api.Point{X: 0, Y: -8, D: 16}, api.Point{X: 0, Y: -1, D: 2}},
		{api.Point{X: 6, Y: 10, D: 15}, api.Point{X: 6, Y: 10, D: 15}},
		{api.Point{X: 4, Y: 4, D: 3}, api.Point{X: 4, Y: 4, D: 3}},
		{api.Point{}, api.Point{}},
	} {
		if got := Least(c.p); got != c.want {
			t.Errorf("Least(%v) = %v, want %v", c.p, got, c.want)
		}
	}
}

func TestCompareLists(t *testing.T) {
	a, b, c := api.Point{X: 1, Y: 5, D: 1}, api.Point{X: 3, Y: 0, D: 2}, api.Point{X: 3, Y: 1, D: 2}
	again := api.Point{X: 6, Y: 0, D: 4}
	for _, l := range []struct {
		l, m []api.Point
		want int
	}{
		{nil, nil, 0}, {nil, []api.Point{}, 0}, {nil, []api.Point{a}, -1},
		{[]api.Point{a}, []api.Point{a}, 0}, {[]api.Point{a}, []api.Point{b}, -1},
		{[]api.Point{a, c}, []api.Point{b, a}, -1}, {[]api.Point{a, c}, []api.Point{b}, -1}, {[]api.Point{a}, []api.Point{b, a}, -1},
		{[]api.Point{a, b, c}, []api.Point{a, c, b}, -1}, {[]api.Point{a, b, c}, []api.Point{a, c}, -1},
		{[]api.Point{a, b}, []api.Point{a, b, a}, -1}, {[]api.Point{a, b, c}, []api.Point{a, b, c, a, a}, -1},
		{[]api.Point{a, b}, []api.Point{a, again}, 0}, {[]api.Point{again, a}, []api.Point{b, c}, -1}, {[]api.Point{again}, []api.Point{b, a}, -1},
	} {
		there, back := CompareLists(l.l, l.m), CompareLists(l.m, l.l)
		if sign(there) != l.want || sign(back) != -l.want {
			t.Errorf("CompareLists(%v, %v) = %d, the other way %d, want sign %d", l.l, l.m, there, back, l.want)
		}
	}
}
