package multi_test

import (
	"iter"
	"math"
	"slices"
	"testing"

	"carryover/api"
	"carryover/cell"
	"carryover/multi"
	"carryover/op"
	"carryover/pile"
)

const canonBits = 0x7ff8000000000000

// next: numbers that look like chance, the same ones each time.
func next(seed *uint64) uint64 {
	*seed = *seed*6364136223846793005 + 1442695040888963407
	x := *seed ^ *seed>>29
	return x * 0x9e3779b97f4a7c15 >> 16
}

func bits(b uint64) float64 {
	return math.Float64frombits(b)
}

// inOrder: priorities, one behind the other; those that aren't numbers are spelt in many ways, and are the same.
func inOrder() [][]float64 {
	return [][]float64{
		{math.Inf(-1)}, {-math.MaxFloat64}, {-1}, {-math.SmallestNonzeroFloat64}, {math.Copysign(0, -1)}, {0},
		{math.SmallestNonzeroFloat64}, {1}, {math.MaxFloat64}, {math.Inf(1)},
		{math.NaN(), bits(canonBits), bits(0x7ff0000000000001), bits(0xfff0000000000001), bits(0xfff8000000000000), bits(0x7fffffffffffffff), bits(0xffffffffffffffff)},
	}
}

func item(pri float64, val int64) pile.Item {
	return pile.Item{Pri: pri, Val: val}
}

// pris: items of these priorities, with a Val of 0.
func pris(l ...float64) (out []pile.Item) {
	for _, p := range l {
		out = append(out, item(p, 0))
	}
	return out
}

// numbered: so many items, in order.
func numbered(n int) (out []pile.Item) {
	for k := range n {
		out = append(out, item(float64(k), int64(-k)))
	}
	return out
}

func insert(x pile.Item, draw int) op.Op {
	return op.Op{Kind: op.Insert, Item: x, Draw: [2]int{draw, 0}}
}

func remove(first, second int) op.Op {
	return op.Op{Kind: op.Delete, Draw: [2]int{first, second}}
}

func frame(o op.Op) *op.Frame {
	return &op.Frame{Op: o}
}

func made(t *testing.T, shards int) multi.Multi {
	t.Helper()
	s, e := multi.New(shards)
	if e != api.OK {
		t.Fatalf("New(%d): %d", shards, e)
	}
	return s
}

// memory: one with these shards.
func memory(shards ...[]pile.Item) *cell.Memory {
	m := cell.New()
	for i, l := range shards {
		if l != nil {
			m.Force(i, cell.Value{L: l})
		}
	}
	return m
}

// exact: the same one, bit by bit.
func exact(x, y pile.Item) bool {
	return math.Float64bits(x.Pri) == math.Float64bits(y.Pri) && x.Val == y.Val
}

func same(a, b op.Answer) bool {
	return a.Ok == b.Ok && a.N == b.N && exact(a.Item, b.Item)
}

// alike: have two memories the same cells, bit by bit, with the same versions, and the same clock?
func alike(m, n *cell.Memory) bool {
	if m.Len() != n.Len() || m.Clock() != n.Clock() {
		return false
	}
	for i := range m.Len() {
		c, d := m.Read(i), n.Read(i)
		if c.Ver != d.Ver || c.N != d.N || !slices.EqualFunc(c.L, d.L, exact) {
			return false
		}
	}
	return true
}

// has: a shard has just these items, in this order, bit by bit, and no number.
func has(t *testing.T, m *cell.Memory, at int, want ...pile.Item) {
	t.Helper()
	if c := m.Read(at); !slices.EqualFunc(c.L, want, exact) || c.N != 0 {
		t.Fatalf("shard %d: %v; want %v", at, c.Value, want)
	}
}

// still: a step that isn't the operation's last one, and changes nothing.
func still(t *testing.T, s op.Machine, m *cell.Memory, f *op.Frame) {
	t.Helper()
	before := m.Clone()
	if a, done := s.Step(m, f); !same(a, op.Answer{}) || done || !alike(m, before) {
		t.Fatalf("a step that ends nothing and changes nothing: %+v, %v; clock %d", a, done, m.Clock())
	}
}

// writes: an operation's last step, by which one cell is written.
func writes(t *testing.T, s op.Machine, m *cell.Memory, f *op.Frame, at int, want pile.Item) {
	t.Helper()
	n := m.Clone()
	if a, done := s.Step(m, f); !done || !same(a, op.Answer{Ok: true, Item: want}) {
		t.Fatalf("the last step: %+v, %v; want %+v", a, done, want)
	}
	n.Force(at, m.Read(at).Value)
	if !alike(m, n) {
		t.Fatalf("the last step is a write of shard %d, and of it alone", at)
	}
}

// refused: an operation's last step, which isn't Ok, and changes nothing.
func refused(t *testing.T, s op.Machine, m *cell.Memory, f *op.Frame) {
	t.Helper()
	before := m.Clone()
	if a, done := s.Step(m, f); !done || !same(a, op.Answer{}) || !alike(m, before) {
		t.Fatalf("a last step that isn't Ok: %+v, %v", a, done)
	}
}

// P8.1: which numbers of shards may be; beside an error the Multi is a zero one.
func TestNew(t *testing.T) {
	for shards := 1; shards <= 16; shards++ {
		if s, e := multi.New(shards); e != api.OK || s == (multi.Multi{}) {
			t.Errorf("New(%d): %v, %d", shards, s, e)
		}
	}
	for _, shards := range []int{0, 17, -1, 18, 32, -16, 1 << 32, 1<<32 + 1, math.MinInt, math.MaxInt} {
		if s, e := multi.New(shards); e != api.ErrParam || s != (multi.Multi{}) {
			t.Errorf("New(%d): %v, %d", shards, s, e)
		}
	}
}

// P8.1: the example.
func TestExample(t *testing.T) {
	s, m := made(t, 2), cell.New()
	for _, pri := range []float64{2, 1} {
		if a, done := op.Alone(s, m, insert(item(pri, 9), 0), 2); !done || !same(a, op.Answer{Ok: true, Item: item(pri, 9)}) {
			t.Errorf("Insert of %v: %+v, %v", pri, a, done)
		}
	}
	if a, done := op.Alone(s, m, remove(0, 1), 3); !done || !same(a, op.Answer{Ok: true, Item: item(1, 9)}) {
		t.Errorf("Delete: %+v, %v", a, done)
	}
}

// draws: which shard a draw says.
func draws() [][3]int {
	return [][3]int{
		{1, 0, 0}, {1, 7, 0}, {1, -7, 0}, {1, math.MinInt, 0}, {1, math.MaxInt, 0},
		{16, 0, 0}, {16, 15, 15}, {16, 16, 0}, {16, -1, 15}, {16, -17, 15}, {16, math.MinInt, 0}, {16, math.MaxInt, 15},
		{3, -1, 2}, {3, -2, 1}, {3, -4, 2}, {3, math.MinInt, 1}, {3, math.MaxInt, 1}, {5, 1<<32 + 2, 3},
	}
}

// P8.1: an Insert reads the first draw's shard, then writes it, and it alone; the operation stays what it is.
func TestInsertDraws(t *testing.T) {
	for _, c := range draws() {
		s, m := made(t, c[0]), cell.New()
		for i := range 20 {
			m.Force(i, cell.Value{L: pris(float64(i))})
		}
		o := op.Op{Kind: op.Insert, Item: item(-3, 4), Draw: [2]int{c[1], c[1] + 1}}
		f := frame(o)
		still(t, s, m, f)
		writes(t, s, m, f, c[2], item(-3, 4))
		has(t, m, c[2], item(-3, 4), item(float64(c[2]), 0))
		if f.Op != o {
			t.Errorf("the operation is another one: %+v", f.Op)
		}
	}
}

// P8.1: a Delete reads the shards of both draws, whichever is which, then writes the one that was taken, and it alone.
func TestDeleteDraws(t *testing.T) {
	for _, c := range draws() {
		for k := range 2 {
			s, m := made(t, c[0]), cell.New()
			for i := range 20 {
				m.Force(i, cell.Value{L: pris(float64(100 + i))})
			}
			m.Force(c[2], cell.Value{L: pris(5, 300)})
			o := remove(c[1], c[1])
			o.Draw[1-k] = 0
			o.Item = item(math.Inf(-1), 8)
			f := frame(o)
			still(t, s, m, f)
			still(t, s, m, f)
			writes(t, s, m, f, c[2], item(5, 0))
			has(t, m, c[2], item(300, 0))
			if f.Op != o {
				t.Errorf("the operation is another one: %+v", f.Op)
			}
		}
	}
}

// P8.1: whichever bits a priority has, what is answered, and kept, and answered again is canonical; the shard is in order.
func TestCanonical(t *testing.T) {
	s, m := made(t, 1), cell.New()
	var want []pile.Item
	for _, l := range slices.Backward(inOrder()) {
		canon := l[0]
		if math.IsNaN(canon) {
			canon = bits(canonBits)
		}
		for k, pri := range l {
			x := item(canon, int64(-k))
			f := frame(insert(item(pri, int64(-k)), 0))
			still(t, s, m, f)
			writes(t, s, m, f, 0, x)
			if math.Float64bits(f.Pri) != math.Float64bits(pri) {
				t.Errorf("the operation's priority is another one: %x", math.Float64bits(f.Pri))
			}
			want = append([]pile.Item{x}, want...)
		}
		has(t, m, 0, want...)
	}
	for k, x := range want {
		a, done := op.Alone(s, m, remove(0, 0), 3)
		if !done || !same(a, op.Answer{Ok: true, Item: x}) {
			t.Errorf("Delete: %+v; want %+v", a, x)
		}
		has(t, m, 0, want[k+1:]...)
	}
}

// P8.1: of the same priorities the values say which is ahead; items that are the same stay as many as they are.
func TestValues(t *testing.T) {
	s, m := made(t, 1), cell.New()
	for _, val := range []int64{3, math.MaxInt64, -1, 3, math.MinInt64, 3} {
		op.Alone(s, m, insert(item(2, val), 0), 2)
	}
	op.Alone(s, m, insert(item(1, 9), 0), 2)
	has(t, m, 0, item(1, 9), item(2, math.MinInt64), item(2, -1), item(2, 3), item(2, 3), item(2, 3), item(2, math.MaxInt64))
}

// P8.1: a shard of 61 items has room for one more; one of 62, or more, hasn't, and the read tells.
func TestFull(t *testing.T) {
	s, x := made(t, 2), item(7.5, 1)
	for _, n := range []int{0, 1, 60, 61} {
		m, f := memory(nil, numbered(n)), frame(insert(x, 3))
		still(t, s, m, f)
		writes(t, s, m, f, 1, x)
		has(t, m, 1, pile.Sorted(append(numbered(n), x))...)
	}
	for _, n := range []int{62, 63, 100} {
		m := memory(nil, numbered(n))
		refused(t, s, m, frame(insert(x, 3)))
		if a, done := op.Alone(s, m, insert(x, 0), 2); !done || !a.Ok {
			t.Errorf("the other shard: %+v", a)
		}
	}
}

// P8.1: one shard takes 62 items, one behind the other, and a Delete makes room again.
func TestFill(t *testing.T) {
	s, m := made(t, 1), cell.New()
	for k := range 62 {
		if a, done := op.Alone(s, m, insert(item(float64(-k), 0), 0), 2); !done || !a.Ok {
			t.Fatalf("Insert %d: %+v, %v", k, a, done)
		}
	}
	for range 2 {
		refused(t, s, m, frame(insert(item(9, 0), 0)))
		if a, _ := op.Alone(s, m, remove(0, 0), 3); !a.Ok {
			t.Errorf("Delete: %+v", a)
		}
		if a, done := op.Alone(s, m, insert(item(10, 0), 0), 2); !done || !a.Ok || len(m.Read(0).L) != 62 {
			t.Errorf("Insert: %+v, %v", a, done)
		}
	}
}

// P8.1: is the shard written between an Insert's read and its write, that changes nothing, and the shard is read again: so many times.
func TestInsertDisturbed(t *testing.T) {
	for _, times := range []int{1, 2, 30} {
		for _, by := range []pile.Item{item(1, 0), item(3, 0), item(2, 0)} {
			s, m, l := made(t, 3), memory(nil, pris(0, 4)), pris(0, 4)
			f := frame(insert(item(2, 0), 1))
			for range times {
				still(t, s, m, f)
				l = append(l, by)
				op.Alone(s, m, insert(by, 1), 2)
				still(t, s, m, f)
			}
			still(t, s, m, f)
			writes(t, s, m, f, 1, item(2, 0))
			has(t, m, 1, pile.Sorted(append(l, item(2, 0)))...)
		}
	}
}

// P8.1: the version tells that a shard was written, not what it has; another shard's doesn't matter.
func TestInsertVersion(t *testing.T) {
	s, m := made(t, 3), memory(nil, pris(0, 4))
	f := frame(insert(item(2, 0), 1))
	still(t, s, m, f)
	m.Force(1, m.Read(1).Value)
	still(t, s, m, f)
	still(t, s, m, f)
	m.Force(0, cell.Value{L: pris(8)})
	m.Force(2, cell.Value{L: pris(9)})
	writes(t, s, m, f, 1, item(2, 0))
	has(t, m, 1, pris(0, 2, 4)...)
}

// P8.1: a shard that becomes full between an Insert's read and its write refuses it by the next read; one that has room again takes it.
func TestInsertFullBetween(t *testing.T) {
	s, m := made(t, 1), memory(numbered(61))
	f := frame(insert(item(-1, 0), 0))
	still(t, s, m, f)
	op.Alone(s, m, insert(item(-2, 0), 0), 2)
	still(t, s, m, f)
	refused(t, s, m, f)
	f = frame(insert(item(-1, 0), 0))
	op.Alone(s, m, remove(0, 0), 3)
	still(t, s, m, f)
	op.Alone(s, m, insert(item(-2, 0), 0), 2)
	still(t, s, m, f)
	op.Alone(s, m, remove(0, 0), 3)
	still(t, s, m, f)
	writes(t, s, m, f, 0, item(-1, 0))
}

// P8.1, P8.3, P8.4: a Delete of two shards, alone: which one loses its first item.
func TestDelete(t *testing.T) {
	zero, nan := math.Copysign(0, -1), bits(canonBits)
	for _, c := range []struct {
		first, second []pile.Item
		at            int // which one; -1: none
		want          pile.Item
	}{
		{nil, nil, -1, item(0, 0)},
		{[]pile.Item{}, nil, -1, item(0, 0)}, {nil, []pile.Item{}, -1, item(0, 0)}, {[]pile.Item{}, []pile.Item{}, -1, item(0, 0)},
		{pris(1, 2), nil, 0, item(1, 0)}, {nil, pris(1, 2), 1, item(1, 0)},
		{pris(nan), []pile.Item{}, 0, item(nan, 0)}, {[]pile.Item{}, pris(nan), 1, item(nan, 0)},
		{pris(-5), nil, 0, item(-5, 0)}, {nil, pris(-5), 1, item(-5, 0)}, {nil, pris(0), 1, item(0, 0)}, {pris(0), nil, 0, item(0, 0)},
		{pris(1, 9), pris(2, 3), 0, item(1, 0)}, {pris(2, 3), pris(1, 9), 1, item(1, 0)},
		{pris(1, 5), pris(1, 2), 0, item(1, 0)}, {pris(1), pris(1), 0, item(1, 0)}, {pris(nan), pris(nan, nan), 0, item(nan, 0)},
		{[]pile.Item{item(1, 4)}, []pile.Item{item(1, 3)}, 1, item(1, 3)}, {[]pile.Item{item(1, -4)}, []pile.Item{item(1, 3)}, 0, item(1, -4)},
		{pris(0), pris(zero), 1, item(zero, 0)}, {pris(zero), pris(0), 0, item(zero, 0)},
		{pris(nan), pris(math.Inf(1)), 1, item(math.Inf(1), 0)}, {pris(math.Inf(1)), pris(nan), 0, item(math.Inf(1), 0)},
		{pris(math.Inf(-1)), pris(-math.MaxFloat64), 0, item(math.Inf(-1), 0)}, {pris(0), pris(math.Inf(-1)), 1, item(math.Inf(-1), 0)},
		{numbered(62), pris(30, 31), 0, item(0, 0)}, {pris(30), numbered(63), 1, item(0, 0)},
	} {
		for _, draw := range [][2]int{{0, 1}, {1, 0}, {-4, 3}} {
			place := [2]int{op.Into(draw[0], 2), op.Into(draw[1], 2)}
			seen := [2][]pile.Item{c.first, c.second}
			s, m, f := made(t, 2), memory(seen[place[0]], seen[place[1]]), frame(remove(draw[0], draw[1]))
			still(t, s, m, f)
			if c.at < 0 {
				refused(t, s, m, f)
				continue
			}
			still(t, s, m, f)
			writes(t, s, m, f, place[c.at], c.want)
			has(t, m, place[c.at], seen[c.at][1:]...)
			has(t, m, place[1-c.at], seen[1-c.at]...)
		}
	}
}

// P8.1: shards that neither draw names don't matter.
func TestDeleteOthers(t *testing.T) {
	s, m := made(t, 4), memory(pris(1), pris(5), nil, pris(4))
	f := frame(remove(1, 3))
	still(t, s, m, f)
	still(t, s, m, f)
	writes(t, s, m, f, 3, item(4, 0))
	f = frame(remove(2, 3))
	still(t, s, m, f)
	refused(t, s, m, f)
}

// P8.1: is the shard that was taken written between, by whomever, with whatever, the write changes nothing, and the Delete begins anew with the first shard: both are read again.
func TestDeleteDisturbed(t *testing.T) {
	for taken := range 2 {
		for _, times := range []int{1, 2, 30} {
			for _, behind := range []int{1 + taken, 2} { // reads ahead of the first disturbance
				s, m := made(t, 3), memory(pris(5), pris(5))
				m.Force(taken, cell.Value{L: pris(3, 4)})
				f := frame(remove(0, 1))
				for range times {
					still(t, s, m, f)
					if behind == 1 {
						m.Force(taken, m.Read(taken).Value)
					}
					still(t, s, m, f)
					if behind == 2 {
						m.Force(taken, m.Read(taken).Value)
					}
					still(t, s, m, f)
				}
				still(t, s, m, f)
				m.Force(1-taken, cell.Value{L: pris(6)}) // what is read, or isn't taken, may change
				still(t, s, m, f)
				writes(t, s, m, f, taken, item(3, 0))
				has(t, m, taken, item(4, 0))
				has(t, m, 1-taken, item(6, 0))
			}
		}
	}
}

// P8.1: what a Delete that begins anew sees is what is there by then, of the first shard too.
func TestDeleteAnew(t *testing.T) {
	s, m := made(t, 2), memory(pris(5, 6), pris(3))
	f := frame(remove(0, 1))
	still(t, s, m, f)
	still(t, s, m, f)
	m.Force(1, cell.Value{L: pris(4)})
	m.Force(0, cell.Value{L: pris(1, 2)})
	still(t, s, m, f) // the write of shard 1 fails
	m.Force(0, cell.Value{L: pris(0, 7)})
	still(t, s, m, f)
	m.Force(1, cell.Value{L: pris(-1)})
	still(t, s, m, f)
	writes(t, s, m, f, 1, item(-1, 0))
	has(t, m, 0, pris(0, 7)...)
	// all has gone by then: not Ok, by the second read
	m, f = memory(pris(5), nil), frame(remove(0, 1))
	still(t, s, m, f)
	still(t, s, m, f)
	op.Alone(s, m, remove(0, 0), 3)
	still(t, s, m, f)
	still(t, s, m, f)
	refused(t, s, m, f)
}

// P8.1: the shard that isn't taken may be written between: also if what it has is ahead by then.
func TestDeleteUndisturbed(t *testing.T) {
	for taken := range 2 {
		for _, behind := range []int{1, 2} {
			s, m, f := made(t, 2), memory(pris(5), pris(5)), frame(remove(0, 1))
			m.Force(taken, cell.Value{L: pris(3)})
			still(t, s, m, f)
			if behind == 1 && taken == 1 { // the first shard was read by then; of the second one this would be seen
				m.Force(0, cell.Value{L: pris(1)})
			}
			still(t, s, m, f)
			if behind == 2 {
				m.Force(1-taken, cell.Value{L: pris(1)})
			}
			writes(t, s, m, f, taken, item(3, 0))
			has(t, m, taken)
		}
	}
}

// P8.1, P8.3: both draws name one shard, which may be written between the reads: what was read is held against what was read, and only what is still there goes.
func TestDeleteSame(t *testing.T) {
	for _, c := range []struct {
		first, second []pile.Item
		anew          bool // the first read's item is taken, whose version has gone
	}{
		{nil, pris(1, 2), false}, {pris(5), pris(3, 5), false}, {pris(5, 6), pris(4), false},
		{pris(3, 5), pris(5), true}, {pris(3), pris(3, 4), true}, {pris(3), pris(3), true}, {pris(3), []pile.Item{}, true},
	} {
		for _, shards := range []int{1, 3} {
			s, m := made(t, shards), memory(c.first)
			f := frame(remove(0, -shards))
			still(t, s, m, f)
			m.Force(0, cell.Value{L: c.second})
			still(t, s, m, f)
			if c.anew {
				still(t, s, m, f)
				still(t, s, m, f)
				if len(c.second) == 0 {
					refused(t, s, m, f)
					continue
				}
				still(t, s, m, f)
			}
			writes(t, s, m, f, 0, c.second[0])
			has(t, m, 0, c.second[1:]...)
		}
	}
	s := made(t, 2)
	for _, m := range []*cell.Memory{cell.New(), memory([]pile.Item{}, pris(1))} {
		f := frame(remove(0, 2))
		still(t, s, m, f)
		refused(t, s, m, f)
	}
	m, f := memory(nil, pris(1, 2)), frame(remove(-1, 1))
	still(t, s, m, f)
	still(t, s, m, f)
	writes(t, s, m, f, 1, item(1, 0))
	// the first read saw none, and the second one sees none: what came between and has gone doesn't matter
	m, f = cell.New(), frame(remove(0, 0))
	still(t, s, m, f)
	op.Alone(s, m, insert(item(1, 0), 0), 2)
	op.Alone(s, m, remove(0, 0), 3)
	refused(t, s, m, f)
}

// P8.1: what a frame has seen isn't what the memory has.
func TestApart(t *testing.T) {
	s, m := made(t, 1), memory(pris(1, 2, 3))
	f, g := frame(remove(0, 0)), frame(insert(item(0, 0), 0))
	still(t, s, m, f)
	still(t, s, m, f)
	still(t, s, m, g)
	writes(t, s, m, f, 0, item(1, 0))
	for _, seen := range []cell.Cell{f.Cells[0], f.Cells[1], g.Cells[0]} {
		whole := seen.L[:cap(seen.L)]
		for k := range whole {
			whole[k] = item(-77, -77)
		}
	}
	has(t, m, 0, pris(2, 3)...)
}

// P8.1: an operation under way is in its frame alone: copies of one go on at copies of the memory, each its own way.
func TestCopies(t *testing.T) {
	for _, c := range []struct {
		o     op.Op
		steps int
		want  pile.Item
		rest  []pile.Item
	}{
		{remove(0, 0), 2, item(1, 0), pris(2, 3)},
		{insert(item(2.5, 0), 0), 1, item(2.5, 0), pris(1, 2, 2.5, 3)},
	} {
		m, f := memory(pris(1, 2, 3)), frame(c.o)
		for range c.steps {
			still(t, made(t, 1), m, f)
		}
		for range 3 {
			n, g := m.Clone(), *f
			writes(t, made(t, 1), n, &g, 0, c.want)
			has(t, n, 0, c.rest...)
		}
		has(t, m, 0, pris(1, 2, 3)...)
	}
}

// all: what is in all shards together, in order.
func all(m *cell.Memory, shards int) (out []pile.Item) {
	for i := range shards {
		out = append(out, m.Read(i).L...)
	}
	return pile.Sorted(out)
}

// A run is operations under way at one memory, and what should be in it.
type run struct {
	shards int
	m      *cell.Memory
	frames []op.Frame
	done   []bool
	in     []pile.Item // what was inserted, less what was deleted
}

func begun(shards int, in []pile.Item, l ...op.Op) run {
	r := run{shards: shards, m: cell.New(), done: make([]bool, len(l)), in: in}
	for i := range shards {
		var mine []pile.Item
		for k := i; k < len(in); k += shards {
			mine = append(mine, in[k])
		}
		r.m.Force(i, cell.Value{L: pile.Sorted(mine)})
	}
	for _, o := range l {
		r.frames = append(r.frames, op.Frame{Op: o})
	}
	return r
}

// fork: a copy, which goes its own way.
func (r run) fork() run {
	r.m, r.in = r.m.Clone(), slices.Clone(r.in)
	r.frames, r.done = slices.Clone(r.frames), slices.Clone(r.done)
	return r
}

// step: of operation k; its answer. P8.2, and of one shard P8.3, are asked.
func (r *run) step(t *testing.T, s op.Machine, k int) op.Answer {
	t.Helper()
	had, clock, f := all(r.m, r.shards), r.m.Clock(), &r.frames[k]
	a, done := s.Step(r.m, f)
	r.done[k] = done
	switch {
	case !a.Ok:
		if !same(a, op.Answer{}) || r.m.Clock() != clock {
			t.Fatalf("a step of %+v, which isn't Ok: %+v", f.Op, a)
		}
	case !done || r.m.Clock() != clock+1 || !exact(a.Item, a.Item.Canon()) || a.N != 0:
		t.Fatalf("a step of %+v: %+v, %v", f.Op, a, done)
	case f.Kind == op.Insert:
		r.in = append(r.in, f.Canon())
	default:
		at := slices.IndexFunc(r.in, func(x pile.Item) bool { return exact(x, a.Item) })
		if at < 0 || r.shards == 1 && !exact(a.Item, had[0]) {
			t.Fatalf("%+v was deleted: there was %v", a.Item, had)
		}
		r.in = slices.Delete(slices.Clone(r.in), at, at+1)
	}
	if !slices.EqualFunc(all(r.m, r.shards), pile.Sorted(r.in), exact) {
		t.Fatalf("there is %v; was inserted, less what was deleted: %v", all(r.m, r.shards), r.in)
	}
	return a
}

// every: all ways in which the operations may go past one another; how many there are.
func every(t *testing.T, s op.Machine, r run) int {
	t.Helper()
	ways := 0
	for k := range r.frames {
		if !r.done[k] {
			next := r.fork()
			next.step(t, s, k)
			ways += every(t, s, next)
		}
	}
	return max(ways, 1)
}

// P8.2, P8.3: whichever way a few operations go past one another.
func TestEveryWay(t *testing.T) {
	for _, c := range []struct {
		shards int
		in     []pile.Item
		l      []op.Op
		ways   int
	}{
		{1, nil, []op.Op{insert(item(1, 0), 0), insert(item(1, 0), 0)}, 6},
		{2, nil, []op.Op{insert(item(1, 0), 0), insert(item(1, 0), 1)}, 6},
		{2, pris(1), []op.Op{insert(item(2, 0), 1), remove(0, 0)}, 10},
		{1, nil, []op.Op{remove(0, 0), remove(0, 0)}, 6},
		{1, pris(1, 2), []op.Op{remove(0, 0), insert(item(0, 0), 0)}, 0},
		{1, pris(1), []op.Op{remove(0, 0), remove(0, 0), insert(item(2, 0), 0)}, 0},
		{2, pris(1, 2), []op.Op{remove(0, 1), remove(1, 0), insert(item(0, 0), 1)}, 0},
		{2, pris(1), []op.Op{insert(item(1, 0), 0), remove(1, 0), insert(item(math.NaN(), 5), 1)}, 0},
	} {
		ways := every(t, made(t, c.shards), begun(c.shards, c.in, c.l...))
		if c.ways > 0 && ways != c.ways {
			t.Errorf("%d shards, %v: %d ways; want %d", c.shards, c.l, ways, c.ways)
		}
	}
}

// A tale is what the chapter says of an operation, as one text from its begin to its end, with a pause behind each step; it is broken off where that answers false.
type tale = iter.Seq2[op.Answer, bool]

func told(shards int, m *cell.Memory, o op.Op) tale {
	first, second := ((o.Draw[0]%shards)+shards)%shards, ((o.Draw[1]%shards)+shards)%shards
	if o.Kind == op.Delete {
		return toldDelete(m, first, second)
	}
	x := o.Item
	if math.IsNaN(x.Pri) {
		x.Pri = bits(canonBits)
	}
	return func(pause func(op.Answer, bool) bool) {
		for {
			c := m.Read(first)
			if len(c.L) == 62 {
				pause(op.Answer{}, true)
				return
			}
			if !pause(op.Answer{}, false) {
				return
			}
			at := 0
			for at < len(c.L) && c.L[at].Cmp(x) < 0 {
				at++
			}
			if m.Write(first, c.Ver, cell.Value{L: slices.Insert(c.L, at, x)}) {
				pause(op.Answer{Ok: true, Item: x}, true)
				return
			}
			if !pause(op.Answer{}, false) {
				return
			}
		}
	}
}

func toldDelete(m *cell.Memory, first, second int) tale {
	return func(pause func(op.Answer, bool) bool) {
		for {
			c := m.Read(first)
			if !pause(op.Answer{}, false) {
				return
			}
			at, d := first, m.Read(second)
			if len(c.L) == 0 && len(d.L) == 0 {
				pause(op.Answer{}, true)
				return
			}
			if !pause(op.Answer{}, false) {
				return
			}
			if len(c.L) == 0 || len(d.L) > 0 && d.L[0].Cmp(c.L[0]) < 0 {
				at, c = second, d
			}
			if m.Write(at, c.Ver, cell.Value{L: c.L[1:]}) {
				pause(op.Answer{Ok: true, Item: c.L[0]}, true)
				return
			}
			if !pause(op.Answer{}, false) {
				return
			}
		}
	}
}

// anyOp: of so many in a hundred an Insert.
func anyOp(seed *uint64, inserts uint64) op.Op {
	draws := []int{0, 0, 1, 2, -1, 5, math.MinInt, math.MaxInt}
	o := remove(draws[next(seed)%8], draws[next(seed)%8])
	if next(seed)%100 < inserts {
		l := inOrder()[next(seed)%11]
		o.Kind, o.Item = op.Insert, item(l[next(seed)%uint64(len(l))], int64(next(seed)%3)-1)
	}
	return o
}

// P8.1, P8.2, P8.3: up to six operations at a time, with any picks among them, step by step beside what the chapter says; there are times at which shards are full, and such at which they are empty.
func TestAnyPicks(t *testing.T) {
	seed := uint64(7)
	for _, shards := range []int{1, 2, 3, 7, 16} {
		s, r, twin := made(t, shards), begun(shards, nil), memory()
		for i := range shards {
			twin.Force(i, cell.Value{})
		}
		r.frames, r.done = make([]op.Frame, 6), slices.Repeat([]bool{true}, 6)
		tales, full, none := make([]func() (op.Answer, bool, bool), 6), 0, 0
		for round := range 6000 {
			k := int(next(&seed) % 6)
			if r.done[k] {
				o := anyOp(&seed, []uint64{20, 85, 3}[round/2000])
				r.frames[k] = op.Frame{Op: o}
				step, stop := iter.Pull2(told(shards, twin, o))
				tales[k] = step
				defer stop()
			}
			a := r.step(t, s, k)
			if b, done, _ := tales[k](); !same(a, b) || done != r.done[k] || !alike(r.m, twin) {
				t.Fatalf("%d shards: %+v: %+v, %v; told: %+v, %v", shards, r.frames[k].Op, a, r.done[k], b, done)
			}
			if r.done[k] && !a.Ok && r.frames[k].Kind == op.Insert {
				full++
			} else if r.done[k] && !a.Ok {
				none++
			}
		}
		if full == 0 || none == 0 {
			t.Errorf("%d shards: %d were full, %d empty", shards, full, none)
		}
	}
}

// P8.3: alone, of two shards that both draws name, what is deleted is the first item of all; P8.4: alone, a Delete isn't Ok just if both its shards are empty.
func TestAlone(t *testing.T) {
	seed := uint64(9)
	for _, shards := range []int{1, 2, 4} {
		s, r, none := made(t, shards), begun(shards, nil), 0
		for round := range 4000 {
			o := anyOp(&seed, []uint64{60, 40}[round/200%2])
			if o.Kind == op.Delete && round%2 == 0 {
				o.Draw[1] = o.Draw[0] + 1
			}
			places := []int{op.Into(o.Draw[0], shards), op.Into(o.Draw[1], shards)}
			both := pile.Sorted(append(r.m.Read(places[0]).L, r.m.Read(places[1]).L...))
			whole := all(r.m, shards)
			r.frames, r.done = []op.Frame{{Op: o}}, []bool{false}
			var a op.Answer
			for steps := 0; !r.done[0]; steps++ {
				if a = r.step(t, s, 0); steps == 3 {
					t.Fatalf("%+v, alone, doesn't end", o)
				}
			}
			if o.Kind == op.Insert {
				continue
			}
			if a.Ok != (len(both) > 0) || a.Ok && !exact(a.Item, both[0]) {
				t.Fatalf("%+v: %+v of %v", o, a, both)
			}
			if shards == 2 && places[0] != places[1] && a.Ok && !exact(a.Item, whole[0]) {
				t.Fatalf("%+v: %+v of all: %v", o, a, whole)
			}
			if !a.Ok {
				none++
			}
		}
		if none == 0 {
			t.Errorf("%d shards: none was empty", shards)
		}
	}
}

// P4.3, of a shard: what was inserted, whichever way the Inserts went past one another, comes out in order.
func TestInOrder(t *testing.T) {
	seed := uint64(5)
	for _, shards := range []int{1, 3} {
		s, m := made(t, shards), cell.New()
		var under []*op.Frame
		want := make([][]pile.Item, shards)
		for k := range 62 * shards {
			o := anyOp(&seed, 100)
			o.Draw[0] = k - 62
			at := op.Into(k-62, shards)
			want[at] = append(want[at], o.Canon())
			under = append(under, frame(o))
		}
		for len(under) > 0 {
			k := int(next(&seed) % uint64(len(under)))
			if a, done := s.Step(m, under[k]); done {
				under = slices.Delete(under, k, k+1)
				if !a.Ok {
					t.Fatalf("an Insert isn't Ok: %+v", a)
				}
			}
		}
		for i, l := range want {
			for _, x := range pile.Sorted(l) {
				if a, _ := op.Alone(s, m, remove(i, i), 3); !same(a, op.Answer{Ok: true, Item: x}) {
					t.Fatalf("shard %d: %+v; want %+v", i, a, x)
				}
			}
			refusal := frame(remove(i, i))
			still(t, s, m, refusal)
			refused(t, s, m, refusal)
		}
	}
}
