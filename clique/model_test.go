package clique

import (
	"slices"
	"testing"
	"unsafe"

	"flyover/api"
	"flyover/plain"
)

// plainLevels are the right matrices of all cells, with epochs from 0 up to one that is told.
func plainLevels(g api.Graph, n api.Nest, epoch int) [][]api.Matrix {
	all := plain.Overlay(g, n, 0)
	for at, l := range all {
		for cell := range l {
			l[cell].Epoch = (cell + at) % (epoch + 1)
		}
	}
	return all
}

func wantOK(t *testing.T, name string, all ...api.Errno) {
	t.Helper()
	for _, e := range all {
		if e != api.OK {
			t.Fatal(name, e)
		}
	}
}

// wantMatrix asks for a matrix that Check takes, too.
func wantMatrix(t *testing.T, name string, g api.Graph, n api.Nest, got api.Matrix, e api.Errno, level, cell, epoch int, want ...api.Dist) {
	t.Helper()
	if e != api.OK || got.Level != level || got.Cell != cell || got.Epoch != epoch || !slices.Equal(got.D, want) {
		t.Errorf("%s: %v, %v, want %d, %d, %d, %v", name, got, e, level, cell, epoch, want)
	}
	if e := Check(g, n, got); e != api.OK {
		t.Errorf("%s: Check: %v of %v", name, e, got)
	}
}

// wantNone asks for an error beside which nothing is told (R5).
func wantNone(t *testing.T, name string, got api.Matrix, e, want api.Errno) {
	t.Helper()
	if e != want || got.Level != 0 || got.Cell != 0 || got.Epoch != 0 || len(got.D) != 0 {
		t.Errorf("%s: %v, %v, want %v and nothing", name, got, e, want)
	}
}

func wantErrno(t *testing.T, name string, got, want api.Errno) {
	t.Helper()
	if got != want {
		t.Errorf("%s: %v, want %v", name, got, want)
	}
}

func wantNoWeights(t *testing.T, name string, got []uint32, e, want api.Errno) {
	t.Helper()
	if e != want || len(got) != 0 {
		t.Errorf("%s: %v, %v, want %v and nothing", name, got, e, want)
	}
}

// overlap says whether two lists share memory, their spare room too.
func overlap[A, B any](a []A, b []B) bool {
	if cap(a) == 0 || cap(b) == 0 {
		return false
	}
	var x A
	var y B
	from, to := uintptr(unsafe.Pointer(unsafe.SliceData(a))), uintptr(unsafe.Pointer(unsafe.SliceData(b)))
	return from < to+uintptr(cap(b))*unsafe.Sizeof(y) && to < from+uintptr(cap(a))*unsafe.Sizeof(x)
}
