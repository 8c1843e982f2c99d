package api

import "testing"

func TestNumbers(t *testing.T) {
	for _, c := range []struct {
		name      string
		got, want int
	}{
		{"OK", int(OK), 0}, {"ErrRings", int(ErrRings), 1}, {"ErrCount", int(ErrCount), 2}, {"ErrPoint", int(ErrPoint), 3},
		{"ErrEdge", int(ErrEdge), 4}, {"ErrShare", int(ErrShare), 5}, {"ErrOp", int(ErrOp), 6},
		{"Apart", Apart, 0}, {"Touch", Touch, 1}, {"Along", Along, 2},
		{"Out", Out, 0}, {"In", In, 1}, {"On", On, 2},
		{"MaxCoord", MaxCoord, 64}, {"MaxDen", MaxDen, 32768}, {"MaxRings", MaxRings, 4}, {"MaxPoints", MaxPoints, 12}, {"MaxAll", MaxAll, 2000},
	} {
		if c.got != c.want {
			t.Errorf("%s is %d, want %d", c.name, c.got, c.want)
		}
	}
}
