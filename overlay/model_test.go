package overlay

import (
	"slices"
	"testing"
	"unsafe"

	"flyover/api"
	"flyover/plain"
)

// plainRenew is a second reading of 14.3, of an overlay and of arcs that there are.
func plainRenew(g api.Graph, n api.Nest, o [][]api.Matrix, arcs []int, epoch int) (all [][]api.Matrix, many int) {
	all = make([][]api.Matrix, len(o))
	for at := range o {
		for cell, m := range o[at] {
			inside := func(id int) bool { return slices.Contains(arcs, id) }
			if slices.ContainsFunc(plain.Inner(g, n, at+1, cell), inside) {
				many++
				m = api.Matrix{Level: at + 1, Cell: cell, Epoch: epoch}
				if at == 0 {
					m.D = plain.Whole(g, n, 1, cell)
				} else {
					m.D = plain.Up(g, n, at+1, cell, plain.Chosen(all[at-1], plain.Children(n, at+1, cell)))
				}
			}
			all[at] = append(all[at], m)
		}
	}
	return all, many
}

func plainLate(o [][]api.Matrix) int {
	var epochs []int
	for _, m := range slices.Concat(o...) {
		epochs = append(epochs, m.Epoch)
	}
	return slices.Max(epochs)
}

func wantOK(t *testing.T, name string, all ...api.Errno) {
	t.Helper()
	for _, e := range all {
		if e != api.OK {
			t.Fatal(name, e)
		}
	}
}

func sameMatrix(a, b api.Matrix) bool {
	return a.Level == b.Level && a.Cell == b.Cell && a.Epoch == b.Epoch && slices.Equal(a.D, b.D)
}

func sameOverlay(a, b [][]api.Matrix) bool {
	return slices.EqualFunc(a, b, func(a, b []api.Matrix) bool { return slices.EqualFunc(a, b, sameMatrix) })
}

// wantOverlay asks for one that Check takes, too.
func wantOverlay(t *testing.T, name string, g api.Graph, n api.Nest, got [][]api.Matrix, e api.Errno, want [][]api.Matrix) {
	t.Helper()
	if e != api.OK || !sameOverlay(got, want) {
		t.Errorf("%s: %v, %v, want %v", name, got, e, want)
	}
	wantErrno(t, name+": Check", Check(g, n, got), api.OK)
	if late, e := Late(g, n, got); e != api.OK || late != plainLate(want) {
		t.Errorf("%s: Late: %v, %v", name, late, e)
	}
}

// wantNone asks for an error beside which nothing is told (R5).
func wantNone(t *testing.T, name string, got [][]api.Matrix, many int, e, want api.Errno) {
	t.Helper()
	if e != want || len(got) != 0 || many != 0 {
		t.Errorf("%s: %v, %v, %v, want %v and nothing", name, got, many, e, want)
	}
}

func wantErrno(t *testing.T, name string, got, want api.Errno) {
	t.Helper()
	if got != want {
		t.Errorf("%s: %v, want %v", name, got, want)
	}
}

// overlap says whether two lists share memory, their spare room too.
func overlap[A, B any](a []A, b []B) bool {
	if cap(a) == 0 || cap(b) == 0 {
		return false
	}
	var x A
	var y B
	from, to := uintptr(unsafe.Pointer(unsafe.SliceData(a))), uintptr(unsafe.Pointer(unsafe.SliceData(b)))
	return from < to+uintptr(cap(b))*unsafe.Sizeof(y) && to < from+uintptr(cap(a))*unsafe.Sizeof(x)
}
