package tally_test

import (
	"iter"
	"math"
	"reflect"
	"testing"

	"carryover/api"
	"carryover/cell"
	"carryover/op"
	"carryover/pile"
	"carryover/tally"
)

// next: numbers that look like chance, the same ones each time.
func next(seed *uint64) uint64 {
	*seed = *seed*6364136223846793005 + 1442695040888963407
	x := *seed ^ *seed>>29
	return x * 0x9e3779b97f4a7c15 >> 16
}

func made(t *testing.T, shards int) tally.Tally {
	t.Helper()
	s, e := tally.New(shards)
	if e != api.OK {
		t.Fatalf("New(%d): %d", shards, e)
	}
	return s
}

func add(n int64, draw int) op.Op {
	return op.Op{Kind: op.Add, Item: pile.Item{Val: n}, Draw: [2]int{draw, 0}}
}

func sum() op.Op {
	return op.Op{Kind: op.Sum}
}

func frame(o op.Op) *op.Frame {
	return &op.Frame{Op: o}
}

// ns: what the cells up to a number have, and their versions.
func ns(m *cell.Memory, upTo int) (n []int64, ver []uint64) {
	for i := range upTo {
		n, ver = append(n, m.Read(i).N), append(ver, m.Read(i).Ver)
	}
	return n, ver
}

// total: what the shards have together.
func total(m *cell.Memory, shards int) int64 {
	out := int64(0)
	for i := range shards {
		out += m.Read(i).N
	}
	return out
}

// alike: have two memories the same cells, with the same versions, and the same clock?
func alike(m, n *cell.Memory) bool {
	if m.Len() != n.Len() || m.Clock() != n.Clock() {
		return false
	}
	for i := range m.Len() {
		c, d := m.Read(i), n.Read(i)
		if c.Ver != d.Ver || c.N != d.N || len(c.L) != 0 || len(d.L) != 0 {
			return false
		}
	}
	return true
}

// still: a step that isn't the operation's last one, and changes nothing.
func still(t *testing.T, s op.Machine, m *cell.Memory, f *op.Frame) {
	t.Helper()
	before := m.Clone()
	if a, done := s.Step(m, f); a != (op.Answer{}) || done || !alike(m, before) {
		t.Fatalf("a step that ends nothing and changes nothing: %+v, %v; clock %d", a, done, m.Clock())
	}
}

// last: an operation's last step, and its answer.
func last(t *testing.T, s op.Machine, m *cell.Memory, f *op.Frame, want op.Answer) {
	t.Helper()
	if a, done := s.Step(m, f); a != want || !done {
		t.Fatalf("the last step: %+v, %v; want %+v", a, done, want)
	}
}

// P7.1: which numbers of shards may be; beside an error the Tally is a zero one.
func TestNew(t *testing.T) {
	for shards := 1; shards <= 16; shards++ {
		s, e := tally.New(shards)
		if e != api.OK || s == (tally.Tally{}) {
			t.Errorf("New(%d): %v, %d", shards, s, e)
		}
	}
	for _, shards := range []int{0, 17, -1, 18, 32, -16, 1 << 32, 1<<32 + 1, math.MinInt, math.MaxInt} {
		if s, e := tally.New(shards); e != api.ErrParam || s != (tally.Tally{}) {
			t.Errorf("New(%d): %v, %d", shards, s, e)
		}
	}
}

// P7.1: the example.
func TestExample(t *testing.T) {
	s, m := made(t, 3), cell.New()
	for k, n := range []int64{5, 6} {
		if a, done := op.Alone(s, m, add(n, k), 2); !done || a != (op.Answer{Ok: true}) {
			t.Errorf("Add of %d: %+v, %v", n, a, done)
		}
	}
	if a, done := op.Alone(s, m, sum(), 3); !done || a != (op.Answer{Ok: true, N: 11}) {
		t.Errorf("Sum: %+v, %v", a, done)
	}
}

// P7.1: an Add reads the first draw's shard, then writes it, and it alone; its answer is Ok, and nothing else.
func TestAddDraws(t *testing.T) {
	for _, c := range []struct{ shards, draw, at int }{
		{1, 0, 0}, {1, 7, 0}, {1, -7, 0}, {1, math.MinInt, 0}, {1, math.MaxInt, 0},
		{16, 0, 0}, {16, 15, 15}, {16, 16, 0}, {16, 31, 15}, {16, -1, 15}, {16, -16, 0}, {16, -17, 15},
		{16, math.MinInt, 0}, {16, math.MinInt + 1, 1}, {16, math.MaxInt, 15}, {16, math.MaxInt - 1, 14},
		{3, -1, 2}, {3, -2, 1}, {3, -3, 0}, {3, -4, 2}, {3, math.MinInt, 1}, {3, math.MaxInt, 1}, {5, 1<<32 + 2, 3},
	} {
		s, m := made(t, c.shards), cell.New()
		for i := range 20 {
			m.Force(i, cell.Value{N: int64(100 * i)})
		}
		o := op.Op{Kind: op.Add, Item: pile.Item{Pri: math.Inf(1), Val: 7}, Draw: [2]int{c.draw, c.draw + 1}}
		f, want := frame(o), m.Clone()
		still(t, s, m, f)
		last(t, s, m, f, op.Answer{Ok: true})
		want.Force(c.at, cell.Value{N: int64(100*c.at + 7)})
		if !alike(m, want) || f.Op != o {
			t.Errorf("%d shards, draw %d: not shard %d alone", c.shards, c.draw, c.at)
		}
	}
}

// P7.1: amounts at the edges; an Add of 0 is a write too.
func TestAddAmounts(t *testing.T) {
	for _, n := range []int64{0, 1, 1<<32 - 1, api.MaxAmount} {
		for _, had := range []int64{0, 1, 1 << 32, api.MaxTotal, math.MaxInt64 - api.MaxAmount} {
			s, m := made(t, 2), cell.New()
			m.Force(1, cell.Value{N: had})
			f := frame(add(n, 1))
			still(t, s, m, f)
			last(t, s, m, f, op.Answer{Ok: true})
			if c := m.Read(1); c.N != had+n || c.Ver != 2 || m.Clock() != 2 || m.Read(0).Ver != 0 {
				t.Errorf("Add of %d to %d: %+v", n, had, c)
			}
		}
	}
}

// P7.1: an Add of 0 to a shard that was never written makes it one that was.
func TestAddNothing(t *testing.T) {
	s, m := made(t, 4), cell.New()
	if a, done := op.Alone(s, m, add(0, 2), 2); !done || a != (op.Answer{Ok: true}) || m.Clock() != 1 || m.Len() != 3 || m.Read(2).Ver != 1 {
		t.Errorf("%+v, %v, clock %d", a, done, m.Clock())
	}
}

// P7.1: is the shard written between the read and the write, the write changes nothing, and the shard is read again: so many times. The version tells, not the value.
func TestAddDisturbed(t *testing.T) {
	for _, times := range []int{0, 1, 2, 3, 40} {
		for _, step := range []int64{0, 10} {
			s, m, had := made(t, 3), cell.New(), int64(5)
			m.Force(1, cell.Value{N: had})
			f := frame(add(100, 4))
			for range times {
				still(t, s, m, f)
				had += step
				m.Force(1, cell.Value{N: had})
				still(t, s, m, f)
			}
			still(t, s, m, f)
			last(t, s, m, f, op.Answer{Ok: true})
			if m.Read(1).N != had+100 || m.Clock() != uint64(times+2) {
				t.Errorf("disturbed %d times by %d: %+v", times, step, m.Read(1))
			}
		}
	}
}

// P7.1: a write of another shard, or of a cell that is none, doesn't disturb; one between a failed write and the next read doesn't either.
func TestAddUndisturbed(t *testing.T) {
	s, m := made(t, 3), cell.New()
	f := frame(add(100, 1))
	still(t, s, m, f)
	m.Force(0, cell.Value{N: 1})
	m.Force(2, cell.Value{N: 2})
	m.Force(3, cell.Value{N: 3})
	last(t, s, m, f, op.Answer{Ok: true})
	f = frame(add(10, 1))
	still(t, s, m, f)
	m.Force(1, cell.Value{N: 200})
	still(t, s, m, f)
	m.Force(1, cell.Value{N: 300})
	still(t, s, m, f)
	last(t, s, m, f, op.Answer{Ok: true})
	if n, ver := ns(m, 4); !reflect.DeepEqual(n, []int64{1, 310, 2, 3}) || !reflect.DeepEqual(ver, []uint64{1, 7, 2, 3}) {
		t.Errorf("%v, versions %v", n, ver)
	}
}

// P7.1: a Sum reads one shard a step, from 0 on, and those alone; with the last one it is done. It writes nothing.
func TestSum(t *testing.T) {
	for shards := 1; shards <= 16; shards++ {
		s, m := made(t, shards), cell.New()
		for i := range 20 {
			m.Force(i, cell.Value{N: 1 << i})
		}
		f := frame(op.Op{Kind: op.Sum, Item: pile.Item{Pri: math.NaN(), Val: 99}, Draw: [2]int{-5, 9}})
		for range shards - 1 {
			still(t, s, m, f)
		}
		last(t, s, m, f, op.Answer{Ok: true, N: 1<<shards - 1})
		if m.Clock() != 20 {
			t.Errorf("%d shards: clock %d", shards, m.Clock())
		}
		if a, done := op.Alone(s, cell.New(), sum(), shards); !done || a != (op.Answer{Ok: true}) {
			t.Errorf("Sum of a new memory: %+v, %v", a, done)
		}
		if _, done := op.Alone(s, m, sum(), shards-1); done {
			t.Errorf("%d shards: done too soon", shards)
		}
	}
}

// P7.1: is a shard written between two of a Sum's reads, that is in the sum just if the shard was still to be read.
func TestSumBetween(t *testing.T) {
	for _, shards := range []int{1, 2, 5, 16} {
		s := made(t, shards)
		for behind := range shards {
			for at := range shards {
				m := cell.New()
				f, want := frame(sum()), int64(0)
				for k := range shards {
					if k == behind {
						op.Alone(s, m, add(1000, at), 2)
					}
					if k == at && behind <= at {
						want = 1000
					}
					if k < shards-1 {
						still(t, s, m, f)
					}
				}
				last(t, s, m, f, op.Answer{Ok: true, N: want})
			}
		}
	}
}

// A run is operations under way at one memory, and what is to be promised of them.
type run struct {
	shards int
	m      *cell.Memory
	frames []op.Frame
	began  []int64 // what the shards had together ahead of each one's first step; -1: none was done
	done   []bool
	added  int64
}

func begun(shards int, l ...op.Op) run {
	r := run{shards: shards, m: cell.New(), done: make([]bool, len(l))}
	for _, o := range l {
		r.frames, r.began = append(r.frames, op.Frame{Op: o}), append(r.began, -1)
	}
	return r
}

// fork: a copy, which goes its own way.
func (r run) fork() run {
	r.m = r.m.Clone()
	r.frames = append([]op.Frame{}, r.frames...)
	r.began, r.done = append([]int64{}, r.began...), append([]bool{}, r.done...)
	return r
}

// step: of operation k; P7.2 and P7.3 are asked.
func (r *run) step(t *testing.T, s op.Machine, k int) {
	t.Helper()
	had, clock, f := total(r.m, r.shards), r.m.Clock(), &r.frames[k]
	if r.began[k] < 0 {
		r.began[k] = had
	}
	a, done := s.Step(r.m, f)
	r.done[k] = done
	has := total(r.m, r.shards)
	switch {
	case done && f.Kind == op.Add:
		r.added += f.Val
		if a != (op.Answer{Ok: true}) || r.m.Clock() != clock+1 {
			t.Fatalf("Add: %+v", a)
		}
	case done && (a.N < r.began[k] || a.N > has || a != (op.Answer{Ok: true, N: a.N})):
		t.Fatalf("Sum: %+v; there were %d when it began, %d when it was done", a, r.began[k], has)
	case !done && a != (op.Answer{}):
		t.Fatalf("not done: %+v", a)
	}
	if has != r.added || !(done && f.Kind == op.Add) && r.m.Clock() != clock {
		t.Fatalf("the shards have %d together; %d were added", has, r.added)
	}
}

// every: all ways in which the operations may go past one another; how many there are.
func every(t *testing.T, s op.Machine, r run) int {
	t.Helper()
	ways := 0
	for k := range r.frames {
		if !r.done[k] {
			next := r.fork()
			next.step(t, s, k)
			ways += every(t, s, next)
		}
	}
	return max(ways, 1)
}

// P7.2, P7.3: whichever way a few operations go past one another.
func TestEveryWay(t *testing.T) {
	for _, c := range []struct {
		shards int
		l      []op.Op
		ways   int
	}{
		{1, []op.Op{add(1, 0), sum()}, 3},
		{1, []op.Op{add(1, 0), add(2, 0)}, 6},
		{2, []op.Op{add(1, 0), add(2, 1)}, 6},
		{2, []op.Op{add(1, 0), add(2, 1), sum()}, 90},
		{2, []op.Op{add(1, 0), add(2, 1), sum(), sum()}, 2520},
		{2, []op.Op{add(1, 0), add(2, 0), add(4, -2)}, 0},
		{3, []op.Op{add(1, 0), add(2, 0), add(4, 2), sum()}, 0},
		{3, []op.Op{add(1, 2), add(0, -1), sum(), sum()}, 0},
	} {
		ways := every(t, made(t, c.shards), begun(c.shards, c.l...))
		if c.ways > 0 && ways != c.ways {
			t.Errorf("%d shards, %d operations: %d ways; want %d", c.shards, len(c.l), ways, c.ways)
		}
	}
}

// A tale is what the chapter says of an operation, as one text from its begin to its end, with a pause behind each step; it is broken off where that answers false.
type tale = iter.Seq2[op.Answer, bool]

func told(shards int, m *cell.Memory, o op.Op) tale {
	if o.Kind == op.Sum {
		return toldSum(shards, m)
	}
	at := ((o.Draw[0] % shards) + shards) % shards
	return func(pause func(op.Answer, bool) bool) {
		for {
			c := m.Read(at)
			if !pause(op.Answer{}, false) {
				return
			}
			wrote := m.Write(at, c.Ver, cell.Value{N: c.N + o.Val})
			if !pause(op.Answer{Ok: wrote}, wrote) || wrote {
				return
			}
		}
	}
}

func toldSum(shards int, m *cell.Memory) tale {
	return func(pause func(op.Answer, bool) bool) {
		n := int64(0)
		for i := range shards - 1 {
			n += m.Read(i).N
			if !pause(op.Answer{}, false) {
				return
			}
		}
		n += m.Read(shards - 1).N
		pause(op.Answer{Ok: true, N: n}, true)
	}
}

func anyOp(seed *uint64) op.Op {
	draws := []int{0, 0, 1, -1, 5, 17, math.MinInt, math.MaxInt}
	o := op.Op{Kind: op.Sum, Draw: [2]int{draws[next(seed)%8], draws[next(seed)%8]}}
	if next(seed)%4 != 0 {
		amounts := []int64{0, 1, 2, 1000, api.MaxAmount - 1, api.MaxAmount}
		o.Kind, o.Val = op.Add, amounts[next(seed)%6]
	}
	return o
}

// P7.1, P7.2, P7.3: up to six operations at a time, with any picks among them, step by step beside what the chapter says.
func TestAnyPicks(t *testing.T) {
	seed := uint64(7)
	for shards := 1; shards <= 16; shards++ {
		s, r, twin := made(t, shards), begun(shards), cell.New()
		var tales []func() (op.Answer, bool, bool)
		for range 6 {
			r.frames, r.began, r.done = append(r.frames, op.Frame{}), append(r.began, -1), append(r.done, true)
			tales = append(tales, nil)
		}
		for range 3000 {
			k := int(next(&seed) % 6)
			if r.done[k] {
				o := anyOp(&seed)
				r.frames[k], r.began[k] = op.Frame{Op: o}, -1
				step, stop := iter.Pull2(told(shards, twin, o))
				tales[k] = step
				defer stop()
			}
			watch := &watched{Machine: s}
			r.step(t, watch, k)
			if a, done, _ := tales[k](); a != watch.answer || done != r.done[k] || !alike(r.m, twin) {
				t.Fatalf("%d shards: %+v: %+v, %v; told: %+v, %v", shards, r.frames[k].Op, watch.answer, r.done[k], a, done)
			}
		}
	}
}

// A watched machine keeps its last answer.
type watched struct {
	op.Machine
	answer op.Answer
}

func (w *watched) Step(m *cell.Memory, f *op.Frame) (op.Answer, bool) {
	a, done := w.Machine.Step(m, f)
	w.answer = a
	return a, done
}

// P7.2: with all operations done the shards together have all that was added, each its own.
func TestAllThere(t *testing.T) {
	seed := uint64(3)
	for _, shards := range []int{1, 2, 7, 16} {
		s, m, want := made(t, shards), cell.New(), make([]int64, shards)
		var under []*op.Frame
		for k := range 200 {
			n := int64(next(&seed) % (api.MaxAmount + 1))
			want[k%shards] += n
			under = append(under, frame(add(n, k-shards*50)))
		}
		for len(under) > 0 {
			k := int(next(&seed) % uint64(len(under)))
			if _, done := s.Step(m, under[k]); done {
				under = append(under[:k], under[k+1:]...)
			}
		}
		if got, _ := ns(m, shards); !reflect.DeepEqual(got, want) || m.Len() != shards || m.Clock() != 200 {
			t.Errorf("%d shards: %v; want %v", shards, got, want)
		}
	}
}

// P7.1: an operation under way is in its frame alone: one machine serves many memories, and a copy of a frame goes its own way.
func TestApart(t *testing.T) {
	s, m, n := made(t, 2), cell.New(), cell.New()
	n.Force(0, cell.Value{N: 50})
	f, g := frame(add(1, 0)), frame(add(1, 0))
	still(t, s, m, f)
	still(t, s, n, g)
	h, o := *f, m.Clone()
	last(t, s, m, f, op.Answer{Ok: true})
	last(t, s, n, g, op.Answer{Ok: true})
	last(t, made(t, 2), o, &h, op.Answer{Ok: true})
	if m.Read(0).N != 1 || n.Read(0).N != 51 || !alike(m, o) {
		t.Errorf("%d, %d, %d", m.Read(0).N, n.Read(0).N, o.Read(0).N)
	}
}
