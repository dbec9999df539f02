package shard

import (
	"strconv"

	"flyover/api"
	"flyover/clique"
	"flyover/mess"
)

func (s *Shard) work(j job) ([]string, api.Errno) {
	if m, done, ok := s.held(j.Level, j.Cell); ok && m.Epoch >= j.Epoch {
		return heldReply(m, done, j.Epoch), api.OK
	}
	done, e := s.made(j)
	if e != api.OK {
		return nil, api.ErrMessage
	}
	if e := s.store.Put(key(j.Level, j.Cell), done); e != api.OK {
		return nil, e
	}
	return []string{done}, api.OK
}

// heldReply is none to a job of an epoch that has gone by: what would come of it is not wanted any more.
func heldReply(m api.Matrix, done string, epoch int) []string {
	if m.Epoch > epoch {
		return nil
	}
	return []string{done}
}

// made is the encoded message Done of the matrix that the job makes.
func (s *Shard) made(j job) (string, api.Errno) {
	m, e := s.matrix(j)
	if e != api.OK {
		return "", e
	}
	return mess.Encode(mess.Done(m))
}

func (s *Shard) matrix(j job) (api.Matrix, api.Errno) {
	if j.Level > 1 {
		return clique.Up(s.g, s.n, j.Level, j.Cell, j.Epoch, j.Weights, j.Mats)
	}
	if len(j.Mats) > 0 {
		return api.Matrix{}, api.ErrMessage
	}
	return clique.Leaf(s.g, s.n, j.Cell, j.Epoch, j.Weights)
}

// held is the cell's matrix, and the encoded message Done of it; false: none is held.
func (s *Shard) held(level, cell int) (m api.Matrix, done string, ok bool) {
	done, e := s.store.Get(key(level, cell))
	if e != api.OK {
		return api.Matrix{}, "", false
	}
	m, e = matrixOf(done)
	if e != api.OK || m.Level != level || m.Cell != cell || clique.Check(s.g, s.n, m) != api.OK {
		return api.Matrix{}, "", false
	}
	return m, done, true
}

func matrixOf(done string) (api.Matrix, api.Errno) {
	m, f := mess.Decode(done)
	if f.Code != api.OK {
		return api.Matrix{}, f.Code
	}
	return mess.Matrix(m)
}

func key(level, cell int) string {
	return "m" + strconv.Itoa(level) + "." + strconv.Itoa(cell)
}
