package plain

import (
	"testing"

	"flyover/api"
	"flyover/graph"
	"flyover/nest"
)

// What is right or refused by this package is so by the layers, too: a test that takes it for something else would test nothing.
func TestRightAndRefused(t *testing.T) {
	for _, x := range WrongGraphs() {
		if _, e := graph.Check(x.G); e != x.Want {
			t.Error("graph", x, e)
		}
	}
	for _, x := range WrongNests() {
		if _, e := nest.Check(x.G, x.N); e != x.Want {
			t.Error("nest", x, e)
		}
	}
	draw := Noise()
	for n := 1; n < 30; n++ {
		g := Graph(draw, n, draw(4*n), 9)
		if level, e := nest.Check(g, Nest(draw, n, 1+draw(api.MaxLevels))); e != api.OK {
			t.Error("a nest that was drawn", level, e)
		}
	}
	for n, want := range []int{0, 1 + 1, 2 + 3, 5 + 12} {
		if n > 0 && len(Nests(n)) != want {
			t.Error("how many nests of", n, len(Nests(n)))
		}
	}
}
