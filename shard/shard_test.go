package shard

import (
	"fmt"
	"math"
	"slices"
	"strings"
	"testing"
	"unsafe"

	"flyover/api"
	"flyover/clique"
	"flyover/files"
	"flyover/mess"
	tools "flyover/plain"
	"flyover/query"
	"flyover/store"
)

func wantErrno(t *testing.T, what string, e, want api.Errno) {
	t.Helper()
	if e != want {
		t.Errorf("%s: %v, want %v", what, e, want)
	}
}

func encoded(t *testing.T, m api.Message) string {
	t.Helper()
	b, e := mess.Encode(m)
	if e != api.OK {
		t.Fatalf("Encode of %.200s: %v", fmt.Sprint(m), e)
	}
	return b
}

func decoded(t *testing.T, body string) api.Message {
	t.Helper()
	m, f := mess.Decode(body)
	if f.Code != api.OK {
		t.Fatalf("%.100q is no message: %v", body, f)
	}
	return m
}

// done is the encoded message Done.
func done(t *testing.T, level, cell, epoch int, d ...api.Dist) string {
	t.Helper()
	return encoded(t, api.Message{Kind: api.MDone, Level: level, Cell: cell, Epoch: epoch, D: d})
}

// jobOf has g's weights, and children's matrices that are the right ones under them, of the job's epoch.
func jobOf(g api.Graph, n api.Nest, level, cell, epoch int) api.Message {
	m := api.Message{Kind: api.MJob, Epoch: epoch, Level: level, Cell: cell}
	if level == 1 {
		m.Weights = tools.Weights(g, tools.Inner(g, n, 1, cell))
		return m
	}
	m.Weights = tools.Weights(g, tools.Between(g, n, level, cell))
	for _, child := range tools.Children(n, level, cell) {
		m.Mats = append(m.Mats, api.Matrix{Level: level - 1, Cell: child, Epoch: epoch, D: tools.Whole(g, n, level-1, child)})
	}
	return m
}

// jobsOf are those of all cells, level by level.
func jobsOf(g api.Graph, n api.Nest, epoch int) []api.Message {
	var all []api.Message
	for level := 1; level <= len(n.Cells); level++ {
		for cell := range tools.Many(n, level) {
			all = append(all, jobOf(g, n, level, cell, epoch))
		}
	}
	return all
}

func partOf(g api.Graph, n api.Nest, vertex, other, back int) api.Message {
	return api.Message{Kind: api.MPart, Query: 3, Epoch: 4, Vertex: vertex, Other: other, Back: back, Weights: tools.Weights(g, tools.Inner(g, n, 1, n.Cells[0][vertex]))}
}

func receive(text string) call { return call{kind: receives, text: text} }

func fuse(n int) call { return call{kind: fuses, n: n} }

func crash(draws ...int) call { return call{kind: crashes, draws: draws} }

func plant(key, value string) call { return call{kind: plants, key: key, text: value} }

func newShard(t *testing.T, g api.Graph, n api.Nest, d *files.Disk) *Shard {
	t.Helper()
	s, e := New(g, n, d)
	if s == nil || e != api.OK {
		t.Fatalf("New: %v", e)
	}
	return s
}

// wantReply asks for one reply, or for none if want is empty.
func wantReply(t *testing.T, s *Shard, body, want string) {
	t.Helper()
	replies, e := s.Receive(body)
	if e != api.OK || want == "" && len(replies) > 0 || want != "" && !slices.Equal(replies, []string{want}) {
		t.Errorf("Receive: %.200q, %v, want %.200q", replies, e, want)
	}
}

func wantRefused(t *testing.T, what string, s *Shard, body string, want api.Errno) {
	t.Helper()
	if replies, e := s.Receive(body); len(replies) > 0 || e != want {
		t.Errorf("%s: Receive: %.200q, %v, want %v", what, replies, e, want)
	}
}

// refuses asks both, and that nothing changed.
func (b *both) refuses(what string, m api.Message, want api.Errno) {
	b.t.Helper()
	if _, e := b.do(receive(encoded(b.t, m))); e != want {
		b.t.Errorf("%s: %v, want %v", what, e, want)
	}
	b.look()
}

// Promises 21.1 to 21.3: the chapter's examples.
func TestExamples(t *testing.T) {
	g, n := tools.Three()
	s := newShard(t, g, n, files.New())
	job := api.Message{Kind: api.MJob, Epoch: 1, Level: 1, Cell: 0, Weights: []uint32{9}}
	for range 2 {
		wantReply(t, s, encoded(t, job), done(t, 1, 0, 1, 0, 9, api.Inf, 0))
		wantSame(t, "behind the job", s.Held(), []api.Matrix{{Level: 1, Cell: 0, Epoch: 1, D: []api.Dist{0, 9, api.Inf, 0}}})
	}
	job.Epoch = 0
	wantReply(t, s, encoded(t, job), "")
	wantRefused(t, "no message", s, "abc", api.ErrMessage)
	wantRefused(t, "a message Done", s, done(t, 1, 0, 2, 0, 9, api.Inf, 0), api.ErrMessage)
}

// Promise 21.1, R2, R1: graphs and nests that are not right, ahead of disks that are none, broken or down; nothing changes on these (R5).
func TestNewOfWrong(t *testing.T) {
	for _, x := range append(tools.WrongGraphs(), tools.WrongNests()...) {
		down, broken, fresh := files.New(), files.New(), files.New()
		wantErrno(t, "Fuse", down.Fuse(0), api.OK)
		wantErrno(t, "a change of none", down.Write("x", ""), api.ErrDown)
		wantErrno(t, "Write", broken.Write("snap", "xyz"), api.OK)
		for _, d := range []*files.Disk{nil, down, broken, fresh} {
			if s, e := New(x.G, x.N, d); s != nil || e != x.Want {
				t.Errorf("New: %v, want %v", e, x.Want)
			}
		}
		if names := fresh.Names(); len(names) > 0 {
			t.Errorf("files %q", names)
		}
	}
}

// Promise 21.1: what chapter 18's Open refuses of a disk.
func TestNewOfWrongDisk(t *testing.T) {
	g, n := tools.Three()
	down, broken, full, torn := files.New(), files.New(), files.New(), files.New()
	wantErrno(t, "Fuse", down.Fuse(0), api.OK)
	wantErrno(t, "Write", broken.Write("snap", "xyz"), api.OK)
	for i := range api.MaxFiles {
		wantErrno(t, "Write", full.Write(fmt.Sprint("other", i), ""), api.OK)
	}
	wantErrno(t, "Write", torn.Write("log", "xyz"), api.OK)
	wantErrno(t, "Fuse", torn.Fuse(2), api.OK)
	for _, x := range []struct {
		d    *files.Disk
		want api.Errno
	}{{nil, api.ErrNone}, {down, api.ErrDown}, {broken, api.ErrBroken}, {full, api.ErrLong}, {torn, api.ErrDown}} {
		if s, e := New(g, n, x.d); s != nil || e != x.want {
			t.Errorf("New: %v, want %v", e, x.want)
		}
	}
	wantErrno(t, "Crash", torn.Crash(nil), api.OK)
	if held := newShard(t, g, n, torn).Held(); len(held) > 0 {
		t.Errorf("Held: %v", held)
	}
}

// Promise 21.1: shards of disks of their own do not tell of one another; one that files.New did not make is a disk, too.
func TestNewOfNothing(t *testing.T) {
	g, n := tools.Three()
	first, other := newShard(t, g, n, files.New()), newShard(t, g, n, &files.Disk{})
	wantReply(t, first, encoded(t, jobOf(g, n, 1, 0, 0)), done(t, 1, 0, 0, 0, 5, api.Inf, 0))
	wantSame(t, "the other one", other.Held(), nil)
	wantReply(t, other, encoded(t, jobOf(g, n, 1, 1, 0)), done(t, 1, 1, 0, 0))
	wantSame(t, "the first one", first.Held(), []api.Matrix{{Level: 1, Cell: 0, D: []api.Dist{0, 5, api.Inf, 0}}})
}

// samples are graphs and nests of all kinds that are small: of one to five levels, also with cells without boundary vertices.
func samples() (graphs []api.Graph, nests []api.Nest) {
	add := func(g api.Graph, n api.Nest) { graphs, nests = append(graphs, g), append(nests, n) }
	g, n := tools.Three()
	add(g, n)
	g, n = tools.Rounds()
	add(g, n)
	add(api.Graph{N: 1}, tools.Cells([]int{1}, []int{0}))
	add(api.Graph{N: 1, Arcs: []api.Arc{{Weight: 3}}}, tools.Cells([]int{1, 2}, []int{0}, []int{0}))
	add(api.Graph{N: 4, Arcs: []api.Arc{{From: 0, To: 1, Weight: math.MaxUint32}, {From: 1, To: 2, Weight: math.MaxUint32}, {From: 2, To: 3, Weight: math.MaxUint32}}}, tools.Cells([]int{1, 2, 4}, []int{0, 1, 2, 3}, []int{0, 0, 1, 1}, []int{0, 0, 0, 0}))
	draw := tools.Noise()
	for range 40 {
		size := 1 + draw(14)
		add(tools.Graph(draw, size, draw(4*size), 9), tools.Nest(draw, size, 1+draw(api.MaxLevels)))
	}
	return graphs, nests
}

// Promises 21.1, 21.2, 21.5: the jobs of all cells, level by level, each twice: the right matrices are replied, and held, by levels, then by cells; a new shard on the disk holds them, also behind a crash that takes away all that is not safe.
func TestJobs(t *testing.T) {
	graphs, nests := samples()
	for i, g := range graphs {
		n := nests[i]
		b := newBoth(t, g, n)
		for _, job := range jobsOf(g, n, 7) {
			body := encoded(t, job)
			expected := done(t, job.Level, job.Cell, 7, tools.Whole(g, n, job.Level, job.Cell)...)
			for range 2 {
				if replies, e := b.do(receive(body)); e != api.OK || !slices.Equal(replies, []string{expected}) {
					t.Fatalf("%s: %.100q, %v, want %.100q", b.told(), replies, e, expected)
				}
				b.look()
			}
		}
		all := slices.Concat(tools.Overlay(g, n, 7)...)
		wantSame(t, "all", b.s.Held(), all)
		b.end(-1, -1, -1)
		wantSame(t, "all, behind a crash", b.s.Held(), all)
		b.do(call{kind: compacts})
		b.do(call{kind: news})
		wantSame(t, "all, of a snap", b.s.Held(), all)
	}
}

// Promise 21.1: the matrices are held by levels and cells as numbers, in whatever order they came.
func TestHeldInOrder(t *testing.T) {
	const many = 123
	g := api.Graph{N: many}
	for v := range many - 1 {
		g.Arcs = append(g.Arcs, api.Arc{From: v, To: v + 1, Weight: uint32(v)})
	}
	pairs := tools.Count(many)
	for v := range pairs {
		pairs[v] /= 2
	}
	n := tools.Cells([]int{1, 2}, tools.Count(many), pairs)
	jobs := jobsOf(g, n, 3)
	slices.Reverse(jobs)
	b := newBoth(t, g, n)
	for at, job := range jobs {
		if at%7 > 0 {
			b.do(receive(encoded(t, job)))
		}
	}
	b.look()
	b.end(-1, -1)
	for _, job := range jobs {
		b.do(receive(encoded(t, job)))
	}
	b.look()
	wantSame(t, "all", b.s.Held(), slices.Concat(tools.Overlay(g, n, 3)...))
}

// Promise 21.1: values in the store that are no matrices of their keys' cells are not held, and jobs are done as if they were not there; those that are, are held and replied, whatever their distances.
func TestPlanted(t *testing.T) {
	g, n := tools.Rounds()
	right := func(level, cell, epoch int) string {
		return done(t, level, cell, epoch, tools.Whole(g, n, level, cell)...)
	}
	for _, x := range []struct {
		key, value string
		level      int // of the cell that is held by it; 0: none is
		cell       int
	}{
		{"m1.0", right(1, 0, 5), 1, 0}, {"m1.3", right(1, 3, 5), 1, 3}, {"m2.2", right(2, 2, 5), 2, 2}, {"m3.1", right(3, 1, 5), 3, 1},
		{"m1.0", done(t, 1, 0, api.MaxTicks, 7, 7, 7, 7), 1, 0}, {"m1.2", done(t, 1, 2, 5, api.Inf), 1, 2},
		{"m1.0", "", 0, 0}, {"m1.0", "x", 0, 0}, {"m1.0", right(1, 0, 5) + "\x00", 0, 0}, {"m1.0", right(1, 0, 5)[1:], 0, 0},
		{"m1.0", right(1, 1, 5), 0, 0}, {"m1.1", right(1, 0, 5), 0, 0}, {"m1.0", right(2, 0, 5), 0, 0}, {"m2.0", right(1, 0, 5), 0, 0}, {"m1.2", right(2, 1, 5), 0, 0},
		{"m1.2", done(t, 2, 2, 5, 0), 0, 0}, {"m2.1", done(t, 3, 1, 5, 0), 0, 0}, {"m1.2", done(t, 1, 3, 5, 0), 0, 0},
		{"m1.0", done(t, 1, 0, 5, 0, 9, 9), 0, 0}, {"m1.0", done(t, 1, 0, 5, 0, 9, 9, 0, 0), 0, 0}, {"m1.0", done(t, 1, 0, 5), 0, 0}, {"m1.2", done(t, 1, 2, 5), 0, 0},
		{"m1.0", encoded(t, api.Message{Kind: api.MPiece, D: []api.Dist{0, 9, 9, 0}}), 0, 0},
		{"m1.0", encoded(t, jobOf(g, n, 1, 0, 5)), 0, 0}, {"m1.0", encoded(t, partOf(g, n, 0, 0, 0)), 0, 0},
		{"m1.00", right(1, 0, 5), 0, 0}, {"m01.0", right(1, 0, 5), 0, 0}, {"m+1.0", right(1, 0, 5), 0, 0}, {"M1.0", right(1, 0, 5), 0, 0}, {"m1.0 ", right(1, 0, 5), 0, 0}, {" m1.0", right(1, 0, 5), 0, 0},
		{"1.0", right(1, 0, 5), 0, 0}, {"m1,0", right(1, 0, 5), 0, 0}, {"m10", right(1, 0, 5), 0, 0}, {"m1.", right(1, 0, 5), 0, 0}, {"m.0", right(1, 0, 5), 0, 0}, {"m0.0", right(1, 0, 5), 0, 0}, {"m1.-0", right(1, 0, 5), 0, 0},
		{"m1.4", done(t, 1, 4, 5), 0, 0}, {"m4.0", done(t, 4, 0, 5), 0, 0}, {"m0.0", done(t, 0, 0, 5), 0, 0}, {"m3.2", done(t, 3, 2, 5), 0, 0},
	} {
		b := newBoth(t, g, n, plant(x.key, x.value), call{kind: news})
		b.look()
		held := b.s.Held()
		if x.level == 0 && len(held) > 0 || x.level > 0 && (len(held) != 1 || done(t, x.level, x.cell, held[0].Epoch, held[0].D...) != x.value) {
			t.Errorf("%q with %q: Held: %v", x.key, x.value, held)
		}
		for _, epoch := range []int{4, 5, 6} {
			for level := 1; level <= 3; level++ {
				for cell := range tools.Many(n, level) {
					replies, e := b.do(receive(encoded(t, jobOf(g, n, level, cell, epoch))))
					isHeld := level == x.level && cell == x.cell && epoch <= held[0].Epoch
					expected := []string{right(level, cell, epoch)}
					if isHeld && epoch < held[0].Epoch {
						expected = nil
					} else if isHeld {
						expected = []string{x.value}
					}
					if e != api.OK || !slices.Equal(replies, expected) {
						t.Errorf("%q with %q: a job of %d.%d, %d: %q, %v, want %q", x.key, x.value, level, cell, epoch, replies, e, expected)
					}
				}
			}
		}
		b.look()
		b.end(-1, -1)
	}
}

// Promise 21.2: epochs of the jobs of one cell: of one that is gone by no reply, of the one that is held that one, whatever the weights and matrices of the job are; of a later one a new matrix.
func TestEpochs(t *testing.T) {
	g, n := tools.Rounds()
	epochs := []int{0, 1, 2, 127, 128, api.MaxTicks - 1, api.MaxTicks}
	for _, x := range []struct{ level, cell int }{{1, 0}, {1, 2}, {2, 0}, {2, 2}, {3, 0}} {
		for _, first := range epochs {
			for _, then := range epochs {
				job, next := jobOf(g, n, x.level, x.cell, first), jobOf(g, n, x.level, x.cell, then)
				for at := range next.Weights {
					next.Weights[at] += 100
				}
				b := newBoth(t, g, n, receive(encoded(t, job)))
				replies, e := b.do(receive(encoded(t, next)))
				wantErrno(t, "the next job", e, api.OK)
				b.look()
				held := b.s.Held()
				if then < first && len(replies) > 0 || then >= first && len(replies) != 1 || len(held) != 1 || held[0].Epoch != max(first, then) {
					t.Errorf("a job of %d behind one of %d: %q, Held: %v", then, first, replies, held)
				}
				// What else is wrong is not looked at, where nothing is to be done.
				for _, wrong := range []api.Message{{Weights: make([]uint32, 99)}, {Mats: make([]api.Matrix, 9)}, {}} {
					wrong.Kind, wrong.Level, wrong.Cell = api.MJob, x.level, x.cell
					for _, wrong.Epoch = range []int{max(first, then), max(first, then) - 1} {
						if wrong.Epoch < 0 {
							continue
						}
						if _, e := b.do(receive(encoded(t, wrong))); e != api.OK {
							t.Errorf("a wrong job of the epoch %d: %v", wrong.Epoch, e)
						}
						b.look()
					}
				}
				b.end(-1, -1)
			}
		}
	}
}

// Promises 21.2, R1, R5: jobs of levels and cells that there are not, whatever else is right or wrong.
func TestWrongPlaces(t *testing.T) {
	graphs, nests := samples()
	for i, g := range graphs[:12] {
		n := nests[i]
		b := newBoth(t, g, n)
		b.do(receive(encoded(t, jobOf(g, n, 1, 0, 5))))
		for _, level := range []int{0, 1, 2, 3, 4, 5, 6, 255, 256, 257, api.MaxTicks} {
			for _, cell := range []int{0, 1, 2, 4, 13, 14, 255, 256, 1023, 1024, api.MaxTicks} {
				if b.p.isCell(level, cell) {
					continue
				}
				for _, epoch := range []int{0, 5, 6} {
					for _, m := range []api.Message{{}, {Weights: []uint32{1}}, {Mats: []api.Matrix{{Level: 1}}}, jobOf(g, n, 1, 0, epoch), jobOf(g, n, len(n.Cells), 0, epoch)} {
						m.Kind, m.Level, m.Cell, m.Epoch = api.MJob, level, cell, epoch
						b.refuses(fmt.Sprint("the cell ", level, ".", cell), m, api.ErrMessage)
					}
				}
			}
		}
	}
}

// Promises 21.2, R5: jobs of later epochs with too many or too few weights, or with matrices that they may not have.
func TestWrongJobs(t *testing.T) {
	g, n := tools.Rounds()
	b := newBoth(t, g, n)
	for _, job := range jobsOf(g, n, 5) {
		b.do(receive(encoded(t, job)))
	}
	for _, job := range jobsOf(g, n, 6) {
		for _, many := range []int{0, 1, 2, 3, 4, 5, 6, 7, 8, 9, 10, 11, 12, api.MaxItems} {
			if x := job; many != len(job.Weights) {
				x.Weights = make([]uint32, many, many+20)
				b.refuses("weights", x, api.ErrMessage)
			}
		}
		for name, mats := range wrongMats(job) {
			x := job
			x.Mats = mats
			b.refuses(name, x, api.ErrMessage)
		}
		wantSame(t, "still", b.s.Held(), slices.Concat(tools.Overlay(g, n, 5)...))
	}
	b.end(-1, -1)
}

// wrongMats are matrices that the job may not have.
func wrongMats(job api.Message) map[string][]api.Matrix {
	one := api.Matrix{Level: job.Level - 1, D: []api.Dist{0}}
	wrong := map[string][]api.Matrix{
		"one more":            append(slices.Clone(job.Mats), one),
		"one of nothing more": append(slices.Clone(job.Mats), api.Matrix{}),
		"as many as may be":   make([]api.Matrix, api.MaxItems),
	}
	if len(job.Mats) == 0 {
		return wrong
	}
	wrong["none"] = nil
	wrong["the last one is missing"] = job.Mats[:len(job.Mats)-1]
	wrong["the first one twice"] = append(slices.Clone(job.Mats[:1]), job.Mats...)
	if len(job.Mats) > 1 {
		turned := slices.Clone(job.Mats)
		slices.Reverse(turned)
		wrong["turned about"] = turned
	}
	for at, m := range job.Mats {
		others := []api.Matrix{
			{Level: m.Level + 1, Cell: m.Cell, Epoch: m.Epoch, D: m.D}, {Level: m.Level - 1, Cell: m.Cell, Epoch: m.Epoch, D: m.D}, {Level: m.Level, Cell: m.Cell + 1, Epoch: m.Epoch, D: m.D},
			{Level: m.Level, Cell: m.Cell, Epoch: job.Epoch + 1, D: m.D}, {Level: m.Level, Cell: m.Cell, Epoch: api.MaxTicks, D: m.D},
			{Level: m.Level, Cell: m.Cell, Epoch: m.Epoch, D: append(slices.Clone(m.D), 0)}, {Level: m.Level, Cell: m.Cell, Epoch: m.Epoch, D: make([]api.Dist, len(m.D)+9)},
		}
		if len(m.D) > 0 {
			others = append(others, api.Matrix{Level: m.Level, Cell: m.Cell, Epoch: m.Epoch, D: m.D[1:]}, api.Matrix{Level: m.Level, Cell: m.Cell, Epoch: m.Epoch})
		}
		for i, other := range others {
			l := slices.Clone(job.Mats)
			l[at] = other
			wrong[fmt.Sprint("another one at ", at, ": ", i)] = l
		}
	}
	return wrong
}

// Promise 21.2: matrices of children may be of earlier epochs, and their distances any; what they make is replied under the job's epoch.
func TestEarlierChildren(t *testing.T) {
	draw := tools.Noise()
	graphs, nests := samples()
	for i, g := range graphs {
		n := nests[i]
		b := newBoth(t, g, n)
		for epoch := range 6 {
			for _, job := range jobsOf(g, n, epoch) {
				for at := range job.Mats {
					job.Mats[at].Epoch = draw(epoch + 1)
					for k := range job.Mats[at].D {
						job.Mats[at].D[k] = tools.Dist(draw)
					}
				}
				for at := range job.Weights {
					job.Weights[at] = []uint32{0, 1, math.MaxUint32, uint32(draw(1 << 20))}[draw(4)]
				}
				replies, e := b.do(receive(encoded(t, job)))
				wantErrno(t, "a job of any matrices", e, api.OK)
				if m := decoded(t, replies[0]); m.Kind != api.MDone || m.Epoch != epoch || m.Level != job.Level || m.Cell != job.Cell {
					t.Errorf("the reply %v", m)
				}
			}
			b.look()
		}
		b.end(draw(100), -1)
	}
}

// Promise 21.2: a shard that holds matrices of its own takes those of the job alone.
func TestOwnMatricesAreNotTaken(t *testing.T) {
	g, n := tools.Rounds()
	h := tools.Reweighed(tools.Noise(), g)
	b := newBoth(t, g, n)
	for _, job := range jobsOf(h, n, 8) {
		b.do(receive(encoded(t, job)))
	}
	for cell := range tools.Many(n, 2) {
		b.do(call{kind: news})
		b.do(receive(encoded(t, jobOf(g, n, 2, cell, 9))))
		if got := b.s.Held(); !slices.ContainsFunc(got, func(m api.Matrix) bool {
			return same(m, api.Matrix{Level: 2, Cell: cell, Epoch: 9, D: tools.Whole(g, n, 2, cell)})
		}) {
			t.Errorf("2.%d: Held: %v", cell, got)
		}
		b.look()
	}
}

// Promise 21.2: the shard's graph has weights, of which no reply tells.
func TestOwnWeightsAreNotTaken(t *testing.T) {
	g, n := tools.Rounds()
	h := tools.Reweighed(tools.Noise(), g)
	s, other := newShard(t, g, n, files.New()), newShard(t, h, n, files.New())
	bodies := []string{encoded(t, partOf(g, n, 2, 3, 1)), encoded(t, partOf(h, n, 2, 3, 0))}
	for _, job := range jobsOf(g, n, 1) {
		bodies = append(bodies, encoded(t, job))
	}
	for _, body := range bodies {
		replies, e := s.Receive(body)
		wantErrno(t, "Receive", e, api.OK)
		wantReply(t, other, body, replies[0])
	}
	wantSame(t, "the other one", other.Held(), s.Held())
}

// clusters is a nest of a star of cells: the vertices of one cell, each with a neighbour of its own outside, so that the cell has so many boundary vertices.
func clusters(boundary int) (api.Graph, api.Nest) {
	g := api.Graph{N: 2 * boundary}
	labels := make([]int, g.N)
	for v := range boundary {
		g.Arcs = append(g.Arcs, api.Arc{From: v, To: boundary + v, Weight: 1})
		if v > 0 {
			g.Arcs = append(g.Arcs, api.Arc{From: v - 1, To: v, Weight: math.MaxUint32})
		}
		labels[boundary+v] = 1 + v
	}
	return g, tools.Cells([]int{api.MaxVertices}, labels)
}

// Promises 21.2, R1, R5: matrices that are too long: for a store (ErrLong), and for a message (ErrMessage).
func TestLongMatrices(t *testing.T) {
	for _, x := range []struct {
		boundary int
		want     api.Errno
	}{{20, api.OK}, {80, api.OK}, {85, api.OK}, {100, api.ErrLong}, {127, api.ErrLong}, {128, api.ErrLong}, {129, api.ErrMessage}, {200, api.ErrMessage}} {
		g, n := clusters(x.boundary)
		b := newBoth(t, g, n)
		job := jobOf(g, n, 1, 0, 1)
		body := encoded(t, job)
		for range 2 {
			if _, e := b.do(receive(body)); e != x.want {
				t.Fatalf("%d boundary vertices: %v, want %v", x.boundary, e, x.want)
			}
			b.look()
		}
		b.do(receive(encoded(t, jobOf(g, n, 1, 1, 1))))
		b.look()
		// Weights of 0 make distances of a byte less: they may be short enough.
		job.Epoch = 2
		clear(job.Weights)
		b.do(receive(encoded(t, job)))
		b.look()
		b.end(-1, -1)
	}
}

// Promises 21.2, R5: a store that is full: jobs are refused that have no room in it, and others are done.
func TestFullStore(t *testing.T) {
	g, n := tools.Rounds()
	for _, room := range []int{0, 20, 31, 32, 33, 40, 60, 200} {
		b := newBoth(t, g, n)
		left := api.MaxBytes - room
		for i := 0; left > 0; i++ {
			value := min(left, 60000)
			b.do(plant(fmt.Sprint("other", i), strings.Repeat("x", max(value-40, 0))))
			left -= value
		}
		b.do(call{kind: news})
		refused, taken := 0, 0
		for epoch := range 3 {
			for _, job := range jobsOf(g, n, 200*epoch) {
				if _, e := b.do(receive(encoded(t, job))); e == api.ErrLong {
					refused++
				} else if e == api.OK {
					taken++
				}
				b.look()
			}
		}
		if room < 20 && refused == 0 || room == 200 && taken == 0 {
			t.Errorf("with room for %d bytes %d are refused, %d taken", room, refused, taken)
		}
		b.end(-1, -1, -1)
	}
}

// Promises 21.2, 21.4: a disk that goes down at each change of a job, also where the log is full, so that it is compacted; behind the crash there is the matrix that was, or the new one.
func TestDownInAJob(t *testing.T) {
	g, n := tools.Rounds()
	filled := []call{}
	for range 4 {
		filled = append(filled, plant("other", strings.Repeat("x", 60000)))
	}
	filled = append(filled, plant("other", strings.Repeat("x", api.MaxBytes-240000-60-5*30-50)))
	for _, begin := range [][]call{nil, filled} {
		for _, draws := range [][]int{nil, {-1, -1, -1}, {math.MaxInt, math.MaxInt, math.MaxInt}, {3, 3, 3}, {25, 10, 70}} {
			for many := range 9 {
				b := newBoth(t, g, n, append(slices.Clone(begin), call{kind: news}, receive(encoded(t, jobOf(g, n, 1, 0, 1))), fuse(many))...)
				had := b.s.Held()
				job := jobOf(g, n, 1, 0, 2)
				job.Weights = make([]uint32, len(job.Weights))
				_, e := b.do(receive(encoded(t, job)))
				if e != api.ErrDown && e != api.OK || many < 2 && e != api.ErrDown || many == 8 && e != api.OK {
					t.Errorf("with a fuse of %d: %v", many, e)
				}
				b.end(draws...)
				held := b.s.Held()
				isOld := slices.EqualFunc(held, had, same)
				if isNew := len(held) == 1 && same(held[0], api.Matrix{Level: 1, Cell: 0, Epoch: 2, D: make([]api.Dist, 4)}); !isNew && (!isOld || e == api.OK) {
					t.Errorf("with a fuse of %d and the draws %v: Held: %v", many, draws, held)
				}
			}
		}
	}
}

// Promise 21.2: what needs no change is answered with no fuse left: jobs that are held or gone by, and parts; what is refused takes nothing of a fuse (R5).
func TestNoChanges(t *testing.T) {
	g, n := tools.Rounds()
	b := newBoth(t, g, n, receive(encoded(t, jobOf(g, n, 1, 0, 5))), fuse(2))
	for _, m := range []api.Message{jobOf(g, n, 1, 0, 5), jobOf(g, n, 1, 0, 4), partOf(g, n, 0, 1, 0), {Kind: api.MJob, Level: 1, Cell: 0, Epoch: 6}, {Kind: api.MDone}, {Kind: api.MPart, Vertex: 9}, jobOf(g, n, 1, 1, 5), jobOf(g, n, 1, 1, 5), partOf(g, n, 0, 1, 1)} {
		if _, e := b.do(receive(encoded(t, m))); e == api.ErrDown {
			t.Errorf("%s: down", b.told())
		}
		b.look()
	}
	b.do(receive("abc"))
	if _, e := b.do(receive(encoded(t, jobOf(g, n, 1, 2, 5)))); e != api.ErrDown {
		t.Errorf("behind the fuse: %v", e)
	}
	b.end(-1, -1)
}

// Promises 21.3, 21.5: the parts of all vertices and all others, there and back: the pieces as chapter 15's Piece tells them; each twice.
func TestParts(t *testing.T) {
	graphs, nests := samples()
	for i, g := range graphs {
		n := nests[i]
		h := tools.Reweighed(tools.Noise(), g)
		b := newBoth(t, g, n)
		for v := range g.N {
			for w := range g.N {
				for back := range 2 {
					m := partOf(h, n, v, w, back)
					d, direct, e := query.Piece(g, n, v, w, back == 1, m.Weights)
					wantErrno(t, "Piece", e, api.OK)
					want := encoded(t, api.Message{Kind: api.MPiece, Query: 3, Epoch: 4, Back: back, D: append(d, direct)})
					for range 2 {
						if replies, e := b.do(receive(encoded(t, m))); e != api.OK || !slices.Equal(replies, []string{want}) {
							t.Fatalf("%s: %q, %v, want %q", b.told(), replies, e, want)
						}
					}
				}
			}
		}
		b.look()
		wantSame(t, "of parts alone", b.s.Held(), nil)
	}
}

// Promise 21.3: the numbers of a part that its piece tells again, up to the greatest, whatever is held.
func TestPartsNumbers(t *testing.T) {
	g, n := tools.Three()
	b := newBoth(t, g, n, receive(encoded(t, jobOf(g, n, 1, 0, 9))))
	for _, number := range []int{0, 1, 2, 9, 10, 127, 128, api.MaxTicks - 1, api.MaxTicks} {
		for _, epoch := range []int{0, 8, 9, 10, api.MaxTicks} {
			for back := range 2 {
				want := api.Message{Kind: api.MPiece, Query: number, Epoch: epoch, Back: back, D: []api.Dist{0, 6, 6}}
				if back == 1 {
					want.D = []api.Dist{0, api.Inf, api.Inf}
				}
				wantReply(t, b.s, encoded(t, api.Message{Kind: api.MPart, Query: number, Epoch: epoch, Vertex: 0, Other: 1, Back: back, Weights: []uint32{6}}), encoded(t, want))
			}
		}
	}
	b.look()
}

// Promises 21.3, R1, R5: parts of vertices that there are not, and with too many or too few weights.
func TestWrongParts(t *testing.T) {
	graphs, nests := samples()
	for i, g := range graphs[:12] {
		n := nests[i]
		b := newBoth(t, g, n)
		b.do(receive(encoded(t, jobOf(g, n, 1, 0, 5))))
		for _, v := range []int{g.N, g.N + 1, 255, 256, 1023, api.MaxVertices, api.MaxVertices + 1, api.MaxTicks} {
			for back := range 2 {
				m := partOf(g, n, 0, 0, back)
				m.Vertex = v
				b.refuses("Vertex", m, api.ErrMessage)
				m.Vertex, m.Other = 0, v
				b.refuses("Other", m, api.ErrMessage)
				m.Vertex = v
				b.refuses("Vertex and Other", m, api.ErrMessage)
				m.Weights = nil
				b.refuses("both, and no weights", m, api.ErrMessage)
			}
		}
		for v := range g.N {
			m := partOf(g, n, v, 0, v%2)
			right := len(m.Weights)
			for _, many := range []int{0, 1, 2, 3, right - 1, right + 1, right + 256, len(g.Arcs), api.MaxItems >> (v & 7)} {
				if m.Weights = make([]uint32, max(many, 0), max(many, 0)+20); len(m.Weights) != right {
					b.refuses("weights", m, api.ErrMessage)
				}
			}
		}
	}
}

// Promises 21.2, 21.5 (W6): bytes that are no message, and messages of other kinds, are refused and change nothing, however long they are; all that are a job or a part but for one byte or the end are answered as they should be.
func TestForeignBytes(t *testing.T) {
	g, n := tools.Rounds()
	b := newBoth(t, g, n, receive(encoded(t, jobOf(g, n, 1, 0, 5))))
	for _, body := range []string{"", "x", "\x00", "\x01\x01", "\x03\x00", "\x03\x01\x01\x01", "m1.0", strings.Repeat("\x03\x01", 20), strings.Repeat("x", api.MaxBytes), strings.Repeat("x", api.MaxBytes+1), strings.Repeat("\x00", 1<<20)} {
		if _, e := b.do(receive(body)); e != api.ErrMessage {
			t.Errorf("%.20q: %v", body, e)
		}
		b.look()
	}
	for _, m := range []api.Message{{Kind: api.MDone}, {Kind: api.MPiece}, {Kind: api.MDone, Epoch: 9, Level: 1, Cell: 0, D: make([]api.Dist, 4)}, {Kind: api.MDone, Epoch: 5, Level: 1, Cell: 1, D: make([]api.Dist, 4)}, {Kind: api.MPiece, Query: 3, Epoch: 4, D: make([]api.Dist, 3)}} {
		b.refuses("another kind", m, api.ErrMessage)
	}
	for _, m := range []api.Message{jobOf(g, n, 1, 0, 5), jobOf(g, n, 1, 1, 2), jobOf(g, n, 2, 0, 3), partOf(g, n, 3, 2, 1)} {
		body := encoded(t, m)
		for at := range len(body) {
			b.do(receive(body[:at]))
			for x := range 256 {
				b.do(receive(body[:at] + string([]byte{byte(x)}) + body[at+1:]))
			}
			if at%16 == 0 {
				b.look()
			}
		}
		if _, e := b.do(receive(body + "\x00")); e != api.ErrMessage {
			t.Errorf("a byte behind: %v", e)
		}
		b.look()
	}
	b.end(-1, -1)
}

// Promise 21.2: a Done and a Piece ask nothing, where a job and a part with the same numbers would be answered, too.
func TestOtherKinds(t *testing.T) {
	g := api.Graph{N: 2, Arcs: []api.Arc{{From: 0, To: 1, Weight: 3}}}
	n := tools.Cells([]int{1}, []int{0, 1})
	b := newBoth(t, g, n)
	for _, l := range [][2]api.Message{
		{{Kind: api.MJob, Epoch: 5, Level: 1}, {Kind: api.MDone, Epoch: 5, Level: 1}},
		{{Kind: api.MJob, Epoch: 4, Level: 1}, {Kind: api.MDone, Epoch: 4, Level: 1, D: make([]api.Dist, 1)}},
		{{Kind: api.MJob, Epoch: 5, Level: 1, Cell: 1}, {Kind: api.MDone, Epoch: 6, Level: 1, Cell: 1, D: make([]api.Dist, 1)}},
		{{Kind: api.MPart, Query: 3, Epoch: 4}, {Kind: api.MPiece, Query: 3, Epoch: 4}},
		{{Kind: api.MPart, Query: 3, Epoch: 4, Back: 1}, {Kind: api.MPiece, Query: 3, Epoch: 4, Back: 1, D: make([]api.Dist, 2)}},
	} {
		if _, e := b.do(receive(encoded(t, l[0]))); e != api.OK {
			t.Errorf("%s: %v", b.told(), e)
		}
		b.refuses("another kind", l[1], api.ErrMessage)
	}
	b.end()
}

// choices are a few calls, of which rows are made.
func choices(t *testing.T, g api.Graph, n api.Nest) []call {
	t.Helper()
	h := tools.Reweighed(tools.Noise(), g)
	wrong := jobOf(g, n, 1, 0, 3)
	wrong.Weights = append(wrong.Weights, 1)
	return []call{
		receive(encoded(t, jobOf(g, n, 1, 0, 1))), receive(encoded(t, jobOf(h, n, 1, 0, 2))), receive(encoded(t, jobOf(h, n, 1, 0, 1))), receive(encoded(t, jobOf(g, n, 1, 1, 1))), receive(encoded(t, wrong)),
		receive(encoded(t, partOf(g, n, 0, 2, 0))), {kind: news}, fuse(1), crash(), crash(-1), crash(9, 3),
	}
}

// Promises 21.1 to 21.5: all rows of four of a few calls.
func TestAllRows(t *testing.T) {
	g, n := tools.Three()
	all := choices(t, g, n)
	for row := range len(all) * len(all) * len(all) * len(all) {
		b := newBoth(t, g, n)
		for i, rest := 0, row; i < 4; i, rest = i+1, rest/len(all) {
			b.do(all[rest%len(all)])
			b.look()
		}
		b.end(5, -1)
	}
}

// drawnMessage is mostly a job or a part that is right, or right but for one thing.
func drawnMessage(draw func(int) int, g api.Graph, n api.Nest) api.Message {
	level := 1 + draw(len(n.Cells))
	m := jobOf(g, n, level, draw(tools.Many(n, level)), draw(6))
	if draw(3) == 0 {
		m = partOf(g, n, draw(g.N), draw(g.N), draw(2))
	}
	switch draw(12) {
	case 0:
		m.Weights = append(m.Weights, 1)
	case 1:
		m.Weights = m.Weights[:len(m.Weights)/2]
	case 2:
		if m.Kind == api.MJob {
			m.Mats = append(m.Mats, api.Matrix{Level: 1})
		}
	case 3:
		m.Mats = m.Mats[:len(m.Mats)/2]
	case 4:
		if m.Kind == api.MJob {
			m.Level, m.Cell = draw(5), draw(5)
		}
	case 5:
		if len(m.Mats) > 0 {
			m.Mats[draw(len(m.Mats))].Epoch = draw(9)
		}
	case 6:
		if m.Kind == api.MPart {
			m.Vertex, m.Other = draw(g.N+2), draw(g.N+2)
		}
	}
	return m
}

func drawnCall(t *testing.T, draw func(int) int, g api.Graph, n api.Nest) call {
	t.Helper()
	switch draw(14) {
	case 0:
		return fuse(draw(6))
	case 1:
		return crash(draw(60)-5, draw(60)-5, draw(60)-5)
	case 2:
		level := 1 + draw(len(n.Cells)+1)
		key := fmt.Sprintf("m%d.%d", level, draw(4))
		return plant(key, done(t, 1+draw(2), draw(3), draw(6), make([]api.Dist, draw(5))...))
	case 3:
		return call{kind: compacts}
	case 4, 5:
		return call{kind: news}
	}
	return receive(encoded(t, drawnMessage(draw, tools.Reweighed(draw, g), n)))
}

// Promises 21.1 to 21.5: drawn calls in long rows, of drawn graphs and nests.
func TestDrawn(t *testing.T) {
	draw := tools.Noise()
	graphs, nests := samples()
	for i, g := range graphs {
		b := newBoth(t, g, nests[i])
		for range 150 {
			b.do(drawnCall(t, draw, g, nests[i]))
			if b.s == nil && draw(3) > 0 {
				b.do(crash(draw(60)-5, draw(60)-5))
				b.do(call{kind: news})
			}
			if draw(4) == 0 {
				b.look()
			}
		}
		b.end(draw(40), draw(40))
	}
}

// Promises 21.4 (W4): shards that crash again and again, each time with all kinds of draws, while jobs of true weights come: each matrix that is held is the right one under the weights of its epoch, and of an epoch that is no earlier than one that was replied.
func TestCrashes(t *testing.T) {
	draw := tools.Noise()
	graphs, nests := samples()
	for i, g := range graphs {
		n := nests[i]
		epochs := []api.Graph{g}
		for range 5 {
			epochs = append(epochs, tools.Reweighed(draw, g))
		}
		d := files.New()
		replied := map[[2]int]int{}
		for range 40 {
			s := newShard(t, g, n, d)
			for _, m := range s.Held() {
				if !slices.Equal(m.D, tools.Whole(epochs[m.Epoch], n, m.Level, m.Cell)) || m.Epoch < replied[[2]int{m.Level, m.Cell}] {
					t.Fatalf("Held: %v, where %v was replied", m, replied)
				}
				delete(replied, [2]int{m.Level, m.Cell})
			}
			if len(replied) > 0 {
				t.Fatalf("not held, though replied: %v", replied)
			}
			for _, m := range s.Held() {
				replied[[2]int{m.Level, m.Cell}] = m.Epoch
			}
			wantErrno(t, "Fuse", d.Fuse(draw(12)), api.OK)
			for e := api.OK; e != api.ErrDown; {
				epoch, level := draw(len(epochs)), 1+draw(len(n.Cells))
				job := jobOf(epochs[epoch], n, level, draw(tools.Many(n, level)), epoch)
				var replies []string
				if replies, e = s.Receive(encoded(t, job)); len(replies) > 0 {
					replied[[2]int{level, job.Cell}] = epoch
				} else if e == api.OK && draw(20) == 0 {
					break
				}
			}
			wantErrno(t, "Crash", d.Crash([]int{draw(60) - 5, draw(60) - 5, draw(60) - 5}), api.OK)
		}
	}
}

// Promises 21.2, 21.3, P1: the greatest graphs, with cells of many vertices and with many cells, held against chapter 13's Whole and chapter 15's Piece.
func TestGreatest(t *testing.T) {
	draw := tools.Noise()
	cells := make([]int, api.MaxVertices)
	for v := range cells {
		cells[v] = v/32/8*4 + v%32/8
	}
	wide := tools.Cells([]int{64, 1024}, tools.Tidy(cells), make([]int, api.MaxVertices))
	for _, g := range append(tools.Shapes(draw)[:3], tools.Great(draw)) {
		for _, n := range []api.Nest{tools.Halved(api.MaxVertices), wide} {
			s := newShard(t, g, n, files.New())
			for level := 1; level <= len(n.Cells); level++ {
				for cell := 0; cell < tools.Many(n, level); cell += 1 + draw(200) {
					wantGreatJob(t, s, g, n, level, cell)
				}
			}
			for range 5 {
				m := partOf(g, n, draw(g.N), draw(g.N), draw(2))
				d, direct, e := query.Piece(g, n, m.Vertex, m.Other, m.Back == 1, m.Weights)
				wantErrno(t, "Piece", e, api.OK)
				wantReply(t, s, encoded(t, m), encoded(t, api.Message{Kind: api.MPiece, Query: 3, Epoch: 4, Back: m.Back, D: append(d, direct)}))
			}
		}
	}
}

// wantGreatJob leaves out jobs that are too long for a message.
func wantGreatJob(t *testing.T, s *Shard, g api.Graph, n api.Nest, level, cell int) {
	t.Helper()
	job := api.Message{Kind: api.MJob, Epoch: 1, Level: level, Cell: cell}
	if level == 1 {
		job.Weights = tools.Weights(g, tools.Inner(g, n, 1, cell))
	} else {
		job.Weights = tools.Weights(g, tools.Between(g, n, level, cell))
		for _, child := range tools.Children(n, level, cell) {
			m, e := clique.Whole(g, n, level-1, child, 1)
			wantErrno(t, "Whole", e, api.OK)
			job.Mats = append(job.Mats, m)
		}
	}
	body, e := mess.Encode(job)
	if e != api.OK {
		return
	}
	m, e := clique.Whole(g, n, level, cell, 1)
	wantErrno(t, "Whole", e, api.OK)
	reply, e := mess.Encode(mess.Done(m))
	switch {
	case e != api.OK:
		wantRefused(t, "a great cell", s, body, api.ErrMessage)
	case len(reply) > 1<<16:
		wantRefused(t, "a great matrix", s, body, api.ErrLong)
	default:
		wantReply(t, s, body, reply)
	}
}

// Promise 21.1, R4: the graph and the nest are not kept: what becomes of them later, and what stands behind their lists' ends, changes nothing; nor are they changed.
func TestArgumentsStay(t *testing.T) {
	g, n, _ := tools.Roomy(0)
	right, nest := tools.Rounds()
	before := tools.Numbers(g, n, nil)
	disk := files.New()
	s := newShard(t, g, n, disk)
	bodies := []string{encoded(t, partOf(right, nest, 0, 1, 0)), encoded(t, partOf(right, nest, 4, 1, 1))}
	for _, job := range jobsOf(right, nest, 2) {
		bodies = append(bodies, encoded(t, job))
	}
	for _, body := range bodies {
		if _, e := s.Receive(body); e != api.OK {
			t.Errorf("Receive: %v", e)
		}
	}
	if !slices.EqualFunc(tools.Numbers(g, n, nil), before, slices.Equal) {
		t.Error("an argument was changed")
	}
	s, other := newShard(t, g, n, files.New()), newShard(t, right, nest, files.New())
	clear(g.Arcs[:cap(g.Arcs)])
	clear(n.Bounds[:cap(n.Bounds)])
	for _, l := range n.Cells {
		clear(l[:cap(l)])
	}
	clear(n.Cells[:cap(n.Cells)])
	for _, body := range bodies {
		replies, e := other.Receive(body)
		wantErrno(t, "Receive", e, api.OK)
		wantReply(t, s, body, replies[0])
	}
	wantSame(t, "behind the change", s.Held(), slices.Concat(tools.Overlay(right, nest, 2)...))
}

func text(b []byte) string { return unsafe.String(unsafe.SliceData(b), len(b)) }

// R4: a body is not kept: its memory may become something else.
func TestBodyIsNotKept(t *testing.T) {
	g, n := tools.Three()
	disk := files.New()
	s := newShard(t, g, n, disk)
	var replies []string
	for _, m := range []api.Message{jobOf(g, n, 1, 0, 4), partOf(g, n, 0, 1, 0)} {
		body := []byte(encoded(t, m))
		before := string(body)
		l, e := s.Receive(text(body))
		wantErrno(t, "Receive", e, api.OK)
		if string(body) != before {
			t.Error("the body was changed")
		}
		clear(body)
		replies = append(replies, l...)
	}
	if !slices.Equal(replies, []string{done(t, 1, 0, 4, 0, 5, api.Inf, 0), encoded(t, api.Message{Kind: api.MPiece, Query: 3, Epoch: 4, D: []api.Dist{0, 5, 5}})}) {
		t.Errorf("the replies became %q", replies)
	}
	wantSame(t, "behind", s.Held(), []api.Matrix{{Level: 1, Cell: 0, Epoch: 4, D: []api.Dist{0, 5, api.Inf, 0}}})
	wantSame(t, "on the disk", newShard(t, g, n, disk).Held(), s.Held())
}

// R4: replies are new memory: no two share any, not with what the shard keeps either.
func TestRepliesAreNew(t *testing.T) {
	g, n := tools.Three()
	disk := files.New()
	for range 2 { // what was put, then what was read from a file
		s := newShard(t, g, n, disk)
		for _, body := range []string{encoded(t, jobOf(g, n, 1, 0, 4)), encoded(t, partOf(g, n, 0, 1, 1))} {
			all := map[*byte]string{}
			for range 4 {
				replies, e := s.Receive(body)
				wantErrno(t, "Receive", e, api.OK)
				if at := unsafe.StringData(replies[0]); all[at] != "" {
					t.Error("two replies share their bytes")
				} else {
					all[at] = replies[0]
				}
				want := strings.Clone(replies[0])
				// The bytes of a reply may become something else.
				clear(unsafe.Slice(unsafe.StringData(replies[0]), len(replies[0])))
				for i := range replies[:cap(replies)] {
					replies[:cap(replies)][i] = "?"
				}
				wantReply(t, s, body, want)
			}
		}
		wantSame(t, "behind", s.Held(), []api.Matrix{{Level: 1, Cell: 0, Epoch: 4, D: []api.Dist{0, 5, api.Inf, 0}}})
	}
}

// R4: what Held tells is new memory, spare room too.
func TestHeldIsNew(t *testing.T) {
	g, n := tools.Rounds()
	s := newShard(t, g, n, files.New())
	for _, job := range jobsOf(g, n, 4) {
		if _, e := s.Receive(encoded(t, job)); e != api.OK {
			t.Errorf("Receive: %v", e)
		}
	}
	want := slices.Concat(tools.Overlay(g, n, 4)...)
	first, second := s.Held(), s.Held()
	for i := range first {
		d := first[i].D[:cap(first[i].D)]
		for at := range d {
			d[at] = 99
		}
		for other := range first {
			if other > i && !slices.Equal(first[other].D, want[other].D) {
				t.Fatalf("two lists of one answer share memory: %d, %d", i, other)
			}
		}
	}
	clear(first[:cap(first)])
	wantSame(t, "the other answer", second, want)
	wantSame(t, "a later answer", s.Held(), want)
}

// R5: what is refused changes nothing that a later call could tell.
func TestRefusedChangesNothing(t *testing.T) {
	g, n := tools.Rounds()
	refused := []string{"", "abc", done(t, 1, 0, 9, 0, 0, 0, 0), encoded(t, api.Message{Kind: api.MJob, Epoch: 9, Level: 1}), encoded(t, api.Message{Kind: api.MJob, Epoch: 9, Level: 9}), encoded(t, api.Message{Kind: api.MPart, Vertex: 9}), encoded(t, api.Message{Kind: api.MPart})}
	for _, begin := range []int{0, 1, 3, 7} {
		for _, body := range refused {
			b, other := newBoth(t, g, n), newBoth(t, g, n)
			for _, job := range jobsOf(g, n, 5)[:begin] {
				b.do(receive(encoded(t, job)))
				other.do(receive(encoded(t, job)))
			}
			if replies, e := b.do(receive(body)); e != api.ErrMessage || len(replies) > 0 {
				t.Errorf("not refused: %s", b.told())
			}
			wantSame(t, "behind what was refused", b.s.Held(), other.s.Held())
			for _, job := range append(jobsOf(g, n, 5), jobsOf(g, n, 9)...) {
				replies, _ := b.do(receive(encoded(t, job)))
				if want, _ := other.do(receive(encoded(t, job))); !slices.Equal(replies, want) {
					t.Errorf("%q, want %q", replies, want)
				}
			}
			b.look()
		}
	}
}

// R7: the same calls tell the same.
func TestSameCalls(t *testing.T) {
	draw := tools.Noise()
	graphs, nests := samples()
	for i, g := range graphs {
		n := nests[i]
		s, again := newShard(t, g, n, files.New()), newShard(t, g, n, files.New())
		for range 30 {
			body := encoded(t, drawnMessage(draw, tools.Reweighed(draw, g), n))
			replies, e := s.Receive(body)
			if same, e2 := again.Receive(body); !slices.Equal(replies, same) || e != e2 {
				t.Fatalf("%.100q, %v and %.100q, %v", replies, e, same, e2)
			}
			wantSame(t, "again", again.Held(), s.Held())
		}
	}
}

// Promises 21.2, 21.5, P1: bytes that are made up, ahead of a job and behind it.
func FuzzReceive(f *testing.F) {
	g, n := tools.Rounds()
	for _, m := range append(jobsOf(g, n, 3), partOf(g, n, 0, 1, 0), partOf(g, n, 5, 5, 1), api.Message{Kind: api.MDone}) {
		if b, e := mess.Encode(m); e == api.OK {
			f.Add(b)
		}
	}
	f.Fuzz(func(t *testing.T, body string) {
		b := newBoth(t, g, n)
		for range 2 {
			b.do(receive(body))
			b.look()
			b.do(receive(encoded(t, jobOf(g, n, 1, 0, 2))))
		}
		b.do(plant("m1.0", body))
		b.do(call{kind: news})
		b.look()
		b.do(receive(body))
		b.end(-1, -1)
	})
}

// Promises 21.1 to 21.5, P1: graphs, nests and rows of calls that are made up.
func FuzzShard(f *testing.F) {
	f.Add(6, []byte{0, 1, 5, 1, 2, 7, 3, 0, 9, 4, 5, 1, 5, 0, 200}, []byte{0, 0, 1, 1, 2, 2, 0, 0, 0, 0, 1, 1}, []byte{0, 0, 1, 1, 2, 0, 9, 0, 1, 3, 3, 3, 4, 1, 0, 0})
	f.Add(3, []byte{0, 1, 5, 1, 2, 7, 0, 2, 20}, []byte{0, 0, 1}, []byte{0, 0, 0, 1, 6, 1, 0, 0, 0, 0, 0, 2, 7, 0, 0, 200})
	f.Add(1, []byte{}, []byte{0}, []byte{})
	f.Fuzz(func(t *testing.T, size int, ends, labels, row []byte) {
		g, n := tools.Read(size&31, ends, labels)
		d := files.New()
		if s, e := New(g, n, d); e != api.OK {
			if s != nil || len(d.Names()) > 0 {
				t.Fatal("a shard that is refused")
			}
			return
		}
		b := newBoth(t, g, n)
		for ; len(row) >= 4; row = row[4:] {
			b.do(madeUp(t, g, n, int(row[0]), int(row[1]), int(row[2]), int(int8(row[3]))))
		}
		b.look()
		b.end(3, -1)
	})
}

// madeUp is a call of four numbers.
func madeUp(t *testing.T, g api.Graph, n api.Nest, kind, x, y, z int) call {
	t.Helper()
	switch kind % 9 {
	case 0, 1, 2:
		level := 1 + x%len(n.Cells)
		m := jobOf(g, n, level, y%tools.Many(n, level), max(z, 0))
		if z < 0 && len(m.Weights) > 0 {
			m.Weights = m.Weights[1:]
		}
		return receive(encoded(t, m))
	case 3:
		return receive(encoded(t, partOf(g, n, x%g.N, y%g.N, z&1)))
	case 4:
		return receive(encoded(t, api.Message{Kind: api.MPart, Vertex: x, Other: y, Back: z & 1}))
	case 5:
		return fuse(x % 8)
	case 6:
		return crash(z, y)
	case 7:
		return plant(fmt.Sprintf("m%d.%d", x%6, y%8), done(t, x%6, y%8, z&15, make([]api.Dist, (z&3)*(z&3))...))
	}
	return call{kind: news}
}

// The store of a shard is what chapter 18 says, so that its files may be read by others.
func TestStoreHasTheKeys(t *testing.T) {
	g, n := tools.Rounds()
	d := files.New()
	s := newShard(t, g, n, d)
	for _, job := range jobsOf(g, n, 4) {
		if _, e := s.Receive(encoded(t, job)); e != api.OK {
			t.Errorf("Receive: %v", e)
		}
	}
	kept, e := store.Open(d)
	wantErrno(t, "Open", e, api.OK)
	if keys := kept.Keys(); !slices.Equal(keys, []string{"m1.0", "m1.1", "m1.2", "m1.3", "m2.0", "m2.1", "m2.2", "m3.0", "m3.1"}) {
		t.Errorf("keys %q", keys)
	}
	value, e := kept.Get("m3.1")
	wantErrno(t, "Get", e, api.OK)
	if want := done(t, 3, 1, 4, tools.Whole(g, n, 3, 1)...); value != want {
		t.Errorf("m3.1: %q, want %q", value, want)
	}
}
