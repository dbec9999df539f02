package shard

import (
	"flyover/api"
	"flyover/cell"
	"flyover/mess"
)

// asked is what a message asks: a job or a part.
type asked interface {
	// isThere answers whether the shard's graph and nest have what it is asked of.
	isThere(s *Shard) bool
}

type job api.Message

type part api.Message

// read answers false of bytes that ask nothing of a shard.
func read(body string) (asked, bool) {
	m, f := mess.Decode(body)
	if f.Code != api.OK {
		return nil, false
	}
	switch m.Kind {
	case api.MJob:
		return job(m), true
	case api.MPart:
		return part(m), true
	}
	return nil, false
}

func (j job) isThere(s *Shard) bool {
	_, e := cell.Boundary(s.g, s.n, j.Level, j.Cell)
	return e == api.OK
}

func (p part) isThere(s *Shard) bool { return s.isVertex(p.Vertex) && s.isVertex(p.Other) }

func (s *Shard) isVertex(v int) bool { return v >= 0 && v < s.g.N }

func (s *Shard) answer(x asked) ([]string, api.Errno) {
	switch x := x.(type) {
	case job:
		return s.work(x)
	case part:
		return s.measure(x)
	}
	return nil, api.ErrMessage
}
