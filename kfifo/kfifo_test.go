package kfifo_test

import (
	"iter"
	"math"
	"slices"
	"testing"

	"carryover/api"
	"carryover/cell"
	"carryover/kfifo"
	"carryover/op"
	"carryover/pile"
)

const canonBits = 0x7ff8000000000000

// next: numbers that look like chance, the same ones each time.
func next(seed *uint64) uint64 {
	*seed = *seed*6364136223846793005 + 1442695040888963407
	x := *seed ^ *seed>>29
	return x * 0x9e3779b97f4a7c15 >> 16
}

func bits(b uint64) float64 {
	return math.Float64frombits(b)
}

// priorities: of many bits.
func priorities() []float64 {
	return []float64{
		0, math.Copysign(0, -1), 1, -1, math.Inf(1), math.Inf(-1), math.MaxFloat64, -math.SmallestNonzeroFloat64,
		math.NaN(), bits(canonBits), bits(0x7ff0000000000001), bits(0xfff0000000000001), bits(0xfff8000000000000), bits(0x7fffffffffffffff), bits(0xffffffffffffffff),
	}
}

// canon: an item as it is kept.
func canon(x pile.Item) pile.Item {
	if math.IsNaN(x.Pri) {
		x.Pri = bits(canonBits)
	}
	return x
}

func val(n int64) pile.Item {
	return pile.Item{Val: n}
}

func enq(x pile.Item, draw int) op.Op {
	return op.Op{Kind: op.Enq, Item: x, Draw: [2]int{draw, 0}}
}

func deq(draw int) op.Op {
	return op.Op{Kind: op.Deq, Draw: [2]int{draw, 0}}
}

func frame(o op.Op) *op.Frame {
	return &op.Frame{Op: o}
}

func made(t *testing.T, k int) kfifo.Queue {
	t.Helper()
	q, e := kfifo.New(k)
	if e != api.OK {
		t.Fatalf("New(%d): %d", k, e)
	}
	return q
}

// slot: the cell of a segment's slot, as the chapter says where it lies.
func slot(k int, seg int64, j int) int {
	return 2 + int(seg)*k + j
}

// last: the last segment for which there is room.
func last(k int) int64 {
	return int64((1000-2)/k - 1)
}

// laid: a memory with a Head, a Tail, and slots from a segment on: a letter for each, e, f, t: Empty, Full, Taken. The item of a Full one has the number of its cell.
func laid(k int, head, tail, from int64, slots string) *cell.Memory {
	m := cell.New()
	if head != 0 {
		m.Force(0, cell.Value{N: head})
	}
	if tail != 0 {
		m.Force(1, cell.Value{N: tail})
	}
	for j, c := range slots {
		at := slot(k, from, j)
		switch c {
		case 'f':
			m.Force(at, full(at))
		case 't':
			m.Force(at, cell.Value{N: 2})
		}
	}
	return m
}

// full: what a Full slot that was laid has.
func full(at int) cell.Value {
	return cell.Value{N: 1, L: []pile.Item{val(int64(at))}}
}

// exact: the same one, bit by bit.
func exact(x, y pile.Item) bool {
	return math.Float64bits(x.Pri) == math.Float64bits(y.Pri) && x.Val == y.Val
}

func same(a, b op.Answer) bool {
	return a.Ok == b.Ok && a.N == b.N && exact(a.Item, b.Item)
}

// alike: have two memories the same cells, bit by bit, with the same versions, and the same clock?
func alike(m, n *cell.Memory) bool {
	if m.Len() != n.Len() || m.Clock() != n.Clock() {
		return false
	}
	for i := range m.Len() {
		c, d := m.Read(i), n.Read(i)
		if c.Ver != d.Ver || c.N != d.N || !slices.EqualFunc(c.L, d.L, exact) {
			return false
		}
	}
	return true
}

// stepped: a step with this answer, by which this cell, and it alone, was written with this (at below 0: none was).
func stepped(t *testing.T, s op.Machine, m *cell.Memory, f *op.Frame, want op.Answer, over bool, at int, v cell.Value) {
	t.Helper()
	n, o := m.Clone(), f.Op
	a, done := s.Step(m, f)
	if !same(a, want) || done != over {
		t.Fatalf("a step of %+v: %+v, %v; want %+v, %v", f.Op, a, done, want, over)
	}
	if at >= 0 {
		n.Force(at, v)
	}
	if !alike(m, n) {
		t.Fatalf("a step of %+v: not a write of cell %d with %v alone; clock %d", f.Op, at, v, m.Clock())
	}
	if f.Kind != o.Kind || f.Draw != o.Draw || !exact(f.Item, o.Item) {
		t.Fatalf("the operation is another one: %+v; was %+v", f.Op, o)
	}
}

// still: so many steps that aren't the operation's last one, and change nothing.
func still(t *testing.T, s op.Machine, m *cell.Memory, f *op.Frame, steps int) {
	t.Helper()
	for range steps {
		stepped(t, s, m, f, op.Answer{}, false, -1, cell.Value{})
	}
}

// moves: a step by which the Head or the Tail is written, and which isn't the last one.
func moves(t *testing.T, s op.Machine, m *cell.Memory, f *op.Frame, end int, to int64) {
	t.Helper()
	stepped(t, s, m, f, op.Answer{}, false, end, cell.Value{N: to})
}

// puts: an Enq's last step, by which a slot is Full.
func puts(t *testing.T, s op.Machine, m *cell.Memory, f *op.Frame, at int, x pile.Item) {
	t.Helper()
	stepped(t, s, m, f, op.Answer{Ok: true, Item: x}, true, at, cell.Value{N: 1, L: []pile.Item{x}})
}

// takes: a Deq's last step, by which a slot is Taken.
func takes(t *testing.T, s op.Machine, m *cell.Memory, f *op.Frame, at int, x pile.Item) {
	t.Helper()
	stepped(t, s, m, f, op.Answer{Ok: true, Item: x}, true, at, cell.Value{N: 2})
}

// refused: an operation's last step, which isn't Ok, and changes nothing.
func refused(t *testing.T, s op.Machine, m *cell.Memory, f *op.Frame) {
	t.Helper()
	stepped(t, s, m, f, op.Answer{}, true, -1, cell.Value{})
}

// P9.1: which numbers of slots may be; beside an error the Queue is a zero one.
func TestNew(t *testing.T) {
	for k := 1; k <= 16; k++ {
		if q, e := kfifo.New(k); e != api.OK || q == (kfifo.Queue{}) {
			t.Errorf("New(%d): %v, %d", k, q, e)
		}
	}
	for _, k := range []int{0, 17, -1, 18, 32, -16, 1 << 32, 1<<32 + 1, math.MinInt, math.MaxInt} {
		if q, e := kfifo.New(k); e != api.ErrParam || q != (kfifo.Queue{}) {
			t.Errorf("New(%d): %v, %d", k, q, e)
		}
	}
}

// P9.1: the constants are as the chapter says.
func TestConstants(t *testing.T) {
	if kfifo.Head != 0 || kfifo.Tail != 1 || kfifo.Base != 2 || kfifo.Empty != 0 || kfifo.Full != 1 || kfifo.Taken != 2 {
		t.Error("Head, Tail, Base: 0, 1, 2; Empty, Full, Taken: 0, 1, 2")
	}
}

// P9.1: the slots lie one behind the other from Base on, segment by segment.
func TestSlot(t *testing.T) {
	for k := 1; k <= 16; k++ {
		q, at := made(t, k), 2
		for seg := int64(0); seg <= 1000; seg++ {
			for j := range k {
				if got := q.Slot(seg, j); got != at {
					t.Fatalf("k %d: Slot(%d, %d): %d; want %d", k, seg, j, got, at)
				}
				at++
			}
		}
		for _, j := range []int{k, 17, 999, 1000} { // a slot that a segment doesn't have: where it would lie
			for _, seg := range []int64{0, 1, 999, 1000} {
				if got := q.Slot(seg, j); got != slot(k, seg, j) {
					t.Errorf("k %d: Slot(%d, %d): %d", k, seg, j, got)
				}
			}
		}
		for _, seg := range []int64{-1, 1001, math.MinInt64, math.MaxInt64, 1 << 62} { // of which nothing is promised but that it ends
			q.Slot(seg, 0)
		}
	}
}

// P9.1: there is room for a segment if all its slots are cells below MaxCells.
func TestFits(t *testing.T) {
	for k := 1; k <= 16; k++ {
		q := made(t, k)
		for seg := int64(-20); seg <= 1100; seg++ {
			want := seg >= 0 && slot(k, seg, k-1) < 1000
			if q.Fits(seg) != want || want != (seg >= 0 && seg <= last(k)) {
				t.Errorf("k %d: Fits(%d): %v; want %v", k, seg, q.Fits(seg), want)
			}
		}
		for _, seg := range []int64{math.MinInt64, math.MinInt64 + 1, -1 << 60, -1 << 32, 1 << 32, 1 << 60, 1 << 61, 1 << 62, 1<<62 + 1, 1<<63 - 1} {
			if q.Fits(seg) {
				t.Errorf("k %d: there is room for %d", k, seg)
			}
		}
	}
	for _, c := range [][2]int64{{1, 997}, {2, 498}, {3, 331}, {7, 141}, {16, 61}} {
		if q := made(t, int(c[0])); !q.Fits(c[1]) || q.Fits(c[1]+1) {
			t.Errorf("k %d: the last one for which there is room is %d", c[0], c[1])
		}
	}
}

// P9.1: the example, and that of the whole.
func TestExample(t *testing.T) {
	q, m := made(t, 2), cell.New()
	for n := range int64(3) {
		if a, done := op.Alone(q, m, enq(val(n+1), 0), 8); !done || !same(a, op.Answer{Ok: true, Item: val(n + 1)}) {
			t.Errorf("Enq of %d: %+v, %v", n+1, a, done)
		}
	}
	if a, done := op.Alone(q, m, deq(1), 4); !done || !same(a, op.Answer{Ok: true, Item: val(2)}) {
		t.Errorf("Deq: %+v, %v", a, done)
	}
}

// draws: of so many slots, which one a draw says.
func draws() [][3]int {
	return [][3]int{
		{1, 0, 0}, {1, 7, 0}, {1, -7, 0}, {1, math.MinInt, 0}, {1, math.MaxInt, 0},
		{16, 0, 0}, {16, 9, 9}, {16, 15, 15}, {16, 16, 0}, {16, -1, 15}, {16, -17, 15}, {16, math.MinInt, 0}, {16, math.MinInt + 1, 1}, {16, math.MaxInt, 15}, {16, math.MaxInt - 1, 14},
		{3, -1, 2}, {3, -2, 1}, {3, -4, 2}, {3, math.MinInt, 1}, {3, math.MaxInt, 1}, {3, math.MaxInt - 1, 0}, {5, 1<<32 + 2, 3},
	}
}

// P9.1: an Enq reads the Tail, then its slots, one a step, from the one that the first draw says on, behind the last one the first one; the first one that is Empty is written.
func TestEnqDraws(t *testing.T) {
	for _, c := range draws() {
		k, draw, start := c[0], c[1], c[2]
		for _, mark := range []byte{'f', 't'} {
			for ahead := range k { // how many aren't Empty
				q, slots := made(t, k), slices.Repeat([]byte{'e'}, k)
				for j := range ahead {
					slots[(start+j)%k] = mark
				}
				m := laid(k, 0, 5, 5, string(slots))
				f := frame(op.Op{Kind: op.Enq, Item: val(9), Draw: [2]int{draw, draw + 1}})
				still(t, q, m, f, 1+ahead+1)
				puts(t, q, m, f, slot(k, 5, (start+ahead)%k), val(9))
			}
		}
	}
}

// P9.1: a Deq reads the Head, the Tail, then the Head's slots likewise; the first one that is Full is written.
func TestDeqDraws(t *testing.T) {
	for _, c := range draws() {
		k, draw, start := c[0], c[1], c[2]
		for _, mark := range []byte{'e', 't'} {
			for ahead := range k { // how many aren't Full
				q, slots := made(t, k), slices.Repeat([]byte{'f'}, k)
				for j := range ahead {
					slots[(start+j)%k] = mark
				}
				for _, tail := range []int64{5, 6} {
					m := laid(k, 5, tail, 5, string(slots))
					f := frame(op.Op{Kind: op.Deq, Item: val(9), Draw: [2]int{draw, draw + 1}})
					still(t, q, m, f, 2+ahead+1)
					at := slot(k, 5, (start+ahead)%k)
					takes(t, q, m, f, at, val(int64(at)))
				}
			}
		}
	}
}

// P9.1: whichever bits a priority has, what is answered, and kept, and answered again is canonical; the operation stays what it is.
func TestCanonical(t *testing.T) {
	for _, k := range []int{1, 2, 16} {
		q, m := made(t, k), cell.New()
		for _, pri := range priorities() {
			for _, n := range []int64{0, -1, math.MinInt64, math.MaxInt64} {
				x := pile.Item{Pri: pri, Val: n}
				a, done := op.Alone(q, m, enq(x, 0), 100)
				if !done || !same(a, op.Answer{Ok: true, Item: canon(x)}) {
					t.Fatalf("Enq of %x, %d: %+v", math.Float64bits(pri), n, a)
				}
				if a, done = op.Alone(q, m, deq(0), 100); !done || !same(a, op.Answer{Ok: true, Item: canon(x)}) {
					t.Fatalf("Deq of %x, %d: %+v", math.Float64bits(pri), n, a)
				}
			}
		}
	}
	for _, pri := range priorities() {
		x := pile.Item{Pri: pri, Val: 7}
		q, m, f := made(t, 1), cell.New(), frame(enq(x, 0))
		still(t, q, m, f, 2)
		puts(t, q, m, f, 2, canon(x))
		f = frame(op.Op{Kind: op.Deq, Item: x})
		still(t, q, m, f, 3)
		takes(t, q, m, f, 2, canon(x))
	}
}

// P9.1: is there no room for the Tail's segment, an Enq is done by the first read, and not Ok; for the last one there is.
func TestNoRoom(t *testing.T) {
	for k := 1; k <= 16; k++ {
		q := made(t, k)
		for _, tail := range []int64{last(k) + 1, last(k) + 2, 998, 999, 1000, 1001, 1 << 32, 1 << 60, 1 << 62, math.MaxInt64, -1, -2, -1 << 60, math.MinInt64} {
			if tail >= 0 && tail <= last(k) {
				continue
			}
			for _, draw := range []int{0, k - 1} {
				refused(t, q, laid(k, 0, tail, 0, ""), frame(enq(val(1), draw)))
			}
		}
		m, f := laid(k, 0, last(k), 0, ""), frame(enq(val(1), k-1))
		still(t, q, m, f, 2)
		puts(t, q, m, f, slot(k, last(k), k-1), val(1))
	}
}

// P9.1: an Enq that finds no slot Empty writes the Tail with one more, and begins anew with it.
func TestEnqMovesOn(t *testing.T) {
	for _, k := range []int{1, 2, 5, 16} {
		for _, slots := range []string{"ffffffffffffffff", "tttttttttttttttt", "tfftftftttfftftf"} {
			q := made(t, k)
			m := laid(k, 0, 3, 3, slots[:k])
			f := frame(enq(val(4), 1))
			still(t, q, m, f, 1+k)
			moves(t, q, m, f, 1, 4)
			still(t, q, m, f, 2)
			puts(t, q, m, f, slot(k, 4, 1%k), val(4))
			// nothing was written yet: the Tail's segment is 0
			m, f = laid(k, 0, 0, 0, slots[:k]), frame(enq(val(4), 1))
			still(t, q, m, f, 1+k)
			moves(t, q, m, f, 1, 1)
		}
	}
}

// P9.1: segments that are full one behind the other are left one by one; behind the last one for which there is room an Enq isn't Ok, and the Tail stays there.
func TestEnqBehindTheLast(t *testing.T) {
	for _, k := range []int{1, 2, 3, 16} {
		q := made(t, k)
		m := laid(k, 0, last(k)-1, last(k)-1, "ffffffffffffffffffffffffffffffff"[:2*k])
		f := frame(enq(val(4), -1))
		for seg := last(k) - 1; seg <= last(k); seg++ {
			still(t, q, m, f, 1+k)
			moves(t, q, m, f, 1, seg+1)
		}
		refused(t, q, m, f)
		refused(t, q, m, frame(enq(val(4), 0)))
	}
}

// P9.1: is the slot written between an Enq's read and its write, whatever with, that step changes nothing, and it begins anew with the Tail: so many times.
func TestEnqSlotWrittenBetween(t *testing.T) {
	for _, v := range []cell.Value{full(3), {N: 2}, {}} {
		for _, times := range []int{1, 2, 14} {
			q, m, f := made(t, 16), laid(16, 0, 1, 1, "tt"), frame(enq(val(9), 1))
			at, ahead := 2, 1
			for range times {
				still(t, q, m, f, 1+ahead+1)
				m.Force(slot(16, 1, at), v)
				if v.N != 0 {
					at, ahead = at+1, ahead+1
				}
				still(t, q, m, f, 1)
			}
			if at == 16 {
				at = 0
				m.Force(slot(16, 1, 0), cell.Value{})
			}
			still(t, q, m, f, 1+ahead+1)
			puts(t, q, m, f, slot(16, 1, at), val(9))
		}
	}
}

// P9.1: an Enq that begins anew goes by the Tail that is there by then.
func TestEnqAnewWithTheTail(t *testing.T) {
	q, m, f := made(t, 2), laid(2, 0, 0, 0, "f"), frame(enq(val(9), 0))
	still(t, q, m, f, 3) // the Tail, two slots
	op.Alone(q, m, enq(val(1), 0), 20)
	op.Alone(q, m, enq(val(2), 0), 20)
	still(t, q, m, f, 3) // the write that fails, the Tail, a slot
	still(t, q, m, f, 1)
	puts(t, q, m, f, slot(2, 1, 1), val(9))
	// a Tail for which there is no room: not Ok
	m, f = laid(2, 0, last(2), last(2), "f"), frame(enq(val(9), 1))
	still(t, q, m, f, 2)
	op.Alone(q, m, enq(val(1), 0), 20)
	op.Alone(q, m, enq(val(2), 0), 20)
	still(t, q, m, f, 1)
	refused(t, q, m, f)
}

// P9.1: is the Tail written between an Enq's read of it and its write of it, that step changes nothing, and it begins anew; the version tells, not the number.
func TestEnqTailWrittenBetween(t *testing.T) {
	for behind := 1; behind <= 3; behind++ { // reads ahead of the other's write
		for _, to := range []int64{0, 1, 2} {
			q, m, f := made(t, 2), laid(2, 0, 0, 0, "ff"), frame(enq(val(9), 0))
			still(t, q, m, f, behind)
			m.Force(1, cell.Value{N: to})
			still(t, q, m, f, 3-behind+1)
			if to == 0 {
				still(t, q, m, f, 3)
				moves(t, q, m, f, 1, 1)
				to = 1
			}
			still(t, q, m, f, 2)
			puts(t, q, m, f, slot(2, to, 0), val(9))
		}
	}
}

// P9.1: a slot is written if its own version is still what it was: the Tail, the Head, and other slots, may have been.
func TestEnqUndisturbed(t *testing.T) {
	q, m, f := made(t, 3), laid(3, 0, 0, 0, "fee"), frame(enq(val(9), 0))
	still(t, q, m, f, 3)
	for _, at := range []int{0, 1, 2, 4, 5} {
		m.Force(at, cell.Value{N: 1})
	}
	puts(t, q, m, f, 3, val(9))
}

// P9.1: a slot is as it was at the step by which it was read.
func TestEnqReadsOneByOne(t *testing.T) {
	q, m, f := made(t, 3), laid(3, 0, 0, 0, "fff"), frame(enq(val(9), 0))
	still(t, q, m, f, 2)
	m.Force(2, cell.Value{}) // was read: isn't seen any more
	m.Force(3, cell.Value{}) // wasn't
	still(t, q, m, f, 1)
	puts(t, q, m, f, 3, val(9))
	m, f = laid(3, 0, 0, 0, "fff"), frame(enq(val(9), 1))
	still(t, q, m, f, 4)
	m.Force(3, cell.Value{})
	moves(t, q, m, f, 1, 1)
	m, f = laid(3, 0, 0, 0, "eee"), frame(enq(val(9), 2))
	still(t, q, m, f, 1)
	m.Force(4, full(4))
	still(t, q, m, f, 1)
	m.Force(2, cell.Value{N: 2})
	still(t, q, m, f, 2)
	puts(t, q, m, f, 3, val(9))
}

// P9.1, P9.5: a Deq of an empty queue reads all slots of the Head's segment, and is done by the last read, not Ok.
func TestDeqEmpty(t *testing.T) {
	for k := 1; k <= 16; k++ {
		for _, draw := range []int{0, 1, -1, k, math.MinInt, math.MaxInt} {
			q := made(t, k)
			for _, m := range []*cell.Memory{cell.New(), laid(k, 7, 7, 6, "tttttttttttttttt"[:k])} {
				f := frame(deq(draw))
				still(t, q, m, f, 2+k-1)
				refused(t, q, m, f)
			}
		}
	}
}

// P9.1, P9.5: some slots are Taken, and one at any place is Empty: not Ok, by the last read; the Tail may be at that segment, or behind it.
func TestDeqSomeTaken(t *testing.T) {
	for _, k := range []int{2, 3, 16} {
		for j := range k {
			for _, draw := range []int{0, j, j + 1, -1} {
				for _, tail := range []int64{2, 3} {
					q, slots := made(t, k), slices.Repeat([]byte{'t'}, k)
					slots[j] = 'e'
					m, f := laid(k, 2, tail, 2, string(slots)), frame(deq(draw))
					still(t, q, m, f, 2+k-1)
					refused(t, q, m, f)
				}
			}
		}
	}
}

// P9.1: of slots of all three kinds the first Full one from the draw on goes, whatever is ahead of it.
func TestDeqMixed(t *testing.T) {
	q := made(t, 4)
	for _, c := range []struct {
		slots           string
		draw, ahead, at int
	}{
		{"etff", 0, 2, 2}, {"etff", 3, 0, 3}, {"fete", 1, 3, 0}, {"efet", 2, 3, 1}, {"tttf", 0, 3, 3}, {"eeef", 0, 3, 3},
	} {
		m, f := laid(4, 1, 1, 1, c.slots), frame(deq(c.draw))
		still(t, q, m, f, 2+c.ahead+1)
		at := slot(4, 1, c.at)
		takes(t, q, m, f, at, val(int64(at)))
	}
}

// P9.1: all are Taken, and the Tail is at that segment: the Tail is written; then, as it is behind it, the Head; then nothing is there.
func TestDeqMovesBoth(t *testing.T) {
	for _, k := range []int{1, 2, 16} {
		for _, seg := range []int64{0, 3, last(k)} {
			q := made(t, k)
			m, f := laid(k, seg, seg, seg, "tttttttttttttttt"[:k]), frame(deq(1))
			still(t, q, m, f, 2+k)
			moves(t, q, m, f, 1, seg+1)
			still(t, q, m, f, 2+k)
			moves(t, q, m, f, 0, seg+1)
			still(t, q, m, f, 2+k-1)
			refused(t, q, m, f)
		}
	}
}

// P9.1: all are Taken, and the Tail is behind that segment, by one or by many: the Head is written, segment by segment, until one has something.
func TestDeqMovesHead(t *testing.T) {
	for _, k := range []int{1, 2, 5} {
		for _, tail := range []int64{5, 6, 900} {
			q := made(t, k)
			m, f := laid(k, 3, tail, 3, "tttttttttttttttttttt"[:2*k]+"ffffff"[:k]), frame(deq(-1))
			for seg := int64(3); seg < 5; seg++ {
				still(t, q, m, f, 2+k)
				moves(t, q, m, f, 0, seg+1)
			}
			still(t, q, m, f, 3)
			at := slot(k, 5, k-1)
			takes(t, q, m, f, at, val(int64(at)))
		}
	}
}

// P9.1: is the slot written between a Deq's read and its write, that step changes nothing, and it begins anew with the Head: so many times.
func TestDeqSlotWrittenBetween(t *testing.T) {
	for _, v := range []cell.Value{{N: 2}, full(77)} {
		for _, times := range []int{1, 2, 14} {
			q, m, f := made(t, 16), laid(16, 1, 1, 1, "teffffffffffffff"), frame(deq(1))
			at, ahead := 2, 1
			for range times {
				still(t, q, m, f, 2+ahead+1)
				m.Force(slot(16, 1, at), v)
				if v.N == 2 {
					at, ahead = at+1, ahead+1
				}
				still(t, q, m, f, 1)
			}
			want := val(77)
			if at == 16 { // all others have gone
				still(t, q, m, f, 2+15)
				refused(t, q, m, f)
				continue
			}
			if v.N == 2 {
				want = val(int64(slot(16, 1, at)))
			}
			still(t, q, m, f, 2+ahead+1)
			takes(t, q, m, f, slot(16, 1, at), want)
		}
	}
}

// P9.1: a Deq that begins anew goes by the Head and the Tail that are there by then.
func TestDeqAnewWithTheHead(t *testing.T) {
	q, m, f := made(t, 1), laid(1, 0, 2, 0, "fff"), frame(deq(0))
	still(t, q, m, f, 3)
	for want := range int64(2) {
		if a, _ := op.Alone(q, m, deq(0), 20); a.Item.Val != want+2 {
			t.Fatalf("Deq: %+v", a)
		}
	}
	still(t, q, m, f, 1+3) // the write that fails; the Head is at the second segment, which is Taken
	moves(t, q, m, f, 0, 2)
	still(t, q, m, f, 3)
	takes(t, q, m, f, 4, val(4))
	// nothing is there any more
	m, f = laid(2, 0, 0, 0, "f"), frame(deq(0))
	q = made(t, 2)
	still(t, q, m, f, 3)
	op.Alone(q, m, deq(0), 20)
	still(t, q, m, f, 1+3)
	refused(t, q, m, f)
	// an Empty slot that was seen ahead of the failure isn't one that is seen now
	m, f = laid(2, 0, 1, 0, "ef"), frame(deq(0))
	still(t, q, m, f, 4)
	m.Force(2, cell.Value{N: 2})
	m.Force(3, cell.Value{N: 2})
	still(t, q, m, f, 1+4)
	moves(t, q, m, f, 0, 1)
}

// P9.1: is the Head written between a Deq's read and its write of it, that step changes nothing, and it begins anew; the version tells, not the number.
func TestDeqHeadWrittenBetween(t *testing.T) {
	for behind := 1; behind <= 4; behind++ { // reads ahead of the other's write
		for _, to := range []int64{0, 1, 2} {
			q, m, f := made(t, 2), laid(2, 0, 2, 0, "ttffff"), frame(deq(0))
			still(t, q, m, f, behind)
			m.Force(0, cell.Value{N: to})
			still(t, q, m, f, 4-behind+1)
			if to == 0 {
				still(t, q, m, f, 4)
				moves(t, q, m, f, 0, 1)
				to = 1
			}
			still(t, q, m, f, 3)
			at := slot(2, to, 0)
			takes(t, q, m, f, at, val(int64(at)))
		}
	}
}

// P9.1: is the Tail written between a Deq's read and its write of it, that step changes nothing, and it begins anew; a write ahead of its read is none between.
func TestDeqTailWrittenBetween(t *testing.T) {
	for behind := 2; behind <= 4; behind++ {
		for _, to := range []int64{0, 1, 2} {
			q, m, f := made(t, 2), laid(2, 0, 0, 0, "tt"), frame(deq(0))
			still(t, q, m, f, behind)
			m.Force(1, cell.Value{N: to})
			still(t, q, m, f, 4-behind+1)
			still(t, q, m, f, 4)
			if to == 0 {
				moves(t, q, m, f, 1, 1)
				continue
			}
			moves(t, q, m, f, 0, 1)
		}
	}
	q, m, f := made(t, 2), laid(2, 0, 0, 0, "tt"), frame(deq(0))
	still(t, q, m, f, 1)
	m.Force(1, cell.Value{})
	still(t, q, m, f, 3)
	moves(t, q, m, f, 1, 1)
	m, f = laid(2, 0, 0, 0, "tt"), frame(deq(0))
	still(t, q, m, f, 1)
	m.Force(1, cell.Value{N: 1})
	still(t, q, m, f, 3)
	moves(t, q, m, f, 0, 1)
}

// P9.1: what isn't written may have been: the Tail, where the Head or a slot is, the Head, where the Tail or a slot is, other slots.
func TestDeqUndisturbed(t *testing.T) {
	q, m, f := made(t, 3), laid(3, 0, 0, 0, "eff"), frame(deq(0))
	still(t, q, m, f, 4)
	for _, at := range []int{0, 1, 2, 4, 5} {
		m.Force(at, cell.Value{N: 1})
	}
	takes(t, q, m, f, 3, val(3))
	m, f = laid(3, 0, 0, 0, "ttt"), frame(deq(0))
	still(t, q, m, f, 5)
	for _, at := range []int{0, 2, 3, 4, 5} {
		m.Force(at, cell.Value{N: 1})
	}
	moves(t, q, m, f, 1, 1)
	m, f = laid(3, 0, 1, 0, "ttt"), frame(deq(0))
	still(t, q, m, f, 5)
	for _, at := range []int{1, 2, 3, 4, 5} {
		m.Force(at, cell.Value{N: 1})
	}
	moves(t, q, m, f, 0, 1)
}

// P9.1: a slot is as it was at the step by which it was read; what came behind that isn't seen.
func TestDeqReadsOneByOne(t *testing.T) {
	q, m, f := made(t, 3), laid(3, 0, 0, 0, "eee"), frame(deq(0))
	still(t, q, m, f, 3)
	m.Force(2, full(2))
	still(t, q, m, f, 1)
	refused(t, q, m, f)
	m, f = laid(3, 0, 0, 0, "eee"), frame(deq(0))
	still(t, q, m, f, 3)
	m.Force(4, full(4))
	still(t, q, m, f, 2)
	takes(t, q, m, f, 4, val(4))
	m, f = laid(3, 0, 0, 0, "ett"), frame(deq(1))
	still(t, q, m, f, 4)
	m.Force(2, cell.Value{N: 2})
	still(t, q, m, f, 1)
	moves(t, q, m, f, 1, 1)
}

// P9.1, P1: a Deq at a segment for which there is no room, in whole or in part, finds nothing there; likewise with a Head and a Tail that no Queue wrote.
func TestDeqNoRoom(t *testing.T) {
	for k := 1; k <= 16; k++ {
		q := made(t, k)
		for _, head := range []int64{last(k) + 1, last(k) + 2, 999, 1000, 1001, 1 << 32, 1 << 60, 1 << 61, 1 << 62, math.MaxInt64, -1, -2, -1 << 61, math.MinInt64} {
			if head >= 0 && head <= last(k) {
				continue
			}
			for _, tail := range []int64{head, 1, 1000, math.MinInt64} {
				m, f := laid(k, head, tail, 0, "ffffffffffffffff"[:k]), frame(deq(3))
				still(t, q, m, f, 2+k-1)
				refused(t, q, m, f)
			}
		}
	}
}

// P1: slots with anything in them: no step panics, and none writes more than one cell.
func TestAnySlots(t *testing.T) {
	seed := uint64(3)
	ns := []int64{0, 1, 2, 3, -1, math.MinInt64, math.MaxInt64}
	for _, k := range []int{1, 2, 16} {
		q := made(t, k)
		for range 300 {
			m := cell.New()
			for i := range 2 + 3*k {
				m.Force(i, cell.Value{N: ns[next(&seed)%7], L: make([]pile.Item, next(&seed)%3)})
			}
			for _, o := range []op.Op{enq(val(1), 0), deq(0)} {
				f := frame(o)
				for range 60 {
					clock := m.Clock()
					if _, done := q.Step(m, f); m.Clock() > clock+1 {
						t.Fatal("a step that writes twice")
					} else if done {
						break
					}
				}
			}
		}
	}
}

// P9.1: what a frame has seen isn't what the memory has.
func TestApart(t *testing.T) {
	q, m := made(t, 1), laid(1, 0, 0, 0, "f")
	f := frame(deq(0))
	still(t, q, m, f, 3)
	for _, seen := range f.Cells {
		for k := range seen.L {
			seen.L[k] = val(-77)
		}
	}
	if !exact(m.Read(2).L[0], val(2)) {
		t.Errorf("the slot has %v", m.Read(2).L)
	}
}

// P9.1: an operation under way is in its frame alone: copies of one go on at copies of the memory, by any Queue of that k, each its own way.
func TestCopies(t *testing.T) {
	for steps := range 5 {
		m, f := laid(2, 0, 1, 0, "tttf"), frame(deq(0))
		still(t, made(t, 2), m, f, steps)
		for range 3 {
			n, g := m.Clone(), *f
			still(t, made(t, 2), n, &g, 4-steps)
			moves(t, made(t, 2), n, &g, 0, 1)
			still(t, made(t, 2), n, &g, 4)
			takes(t, made(t, 2), n, &g, 5, val(5))
		}
	}
	for steps := range 4 {
		m, f := laid(2, 0, 0, 0, "fe"), frame(enq(val(8), 0))
		still(t, made(t, 2), m, f, steps)
		for range 3 {
			n, g := m.Clone(), *f
			still(t, made(t, 2), n, &g, 3-steps)
			puts(t, made(t, 2), n, &g, 3, val(8))
		}
	}
}

// A run is operations under way at one memory, and what should be in it.
type run struct {
	k      int
	m      *cell.Memory
	frames []op.Frame
	done   []bool
	came   []pile.Item // what came, less what went, in the order in which it came
}

// begun: these items have come, one by one, and these operations are under way.
func begun(t *testing.T, k int, came []pile.Item, l ...op.Op) run {
	t.Helper()
	r := run{k: k, m: cell.New(), done: make([]bool, len(l)), came: came}
	for _, x := range came {
		if a, done := op.Alone(made(t, k), r.m, enq(x, 0), 40); !done || !a.Ok {
			t.Fatalf("Enq: %+v", a)
		}
	}
	for _, o := range l {
		r.frames = append(r.frames, op.Frame{Op: o})
	}
	return r
}

// fork: a copy, which goes its own way.
func (r run) fork() run {
	r.m, r.came = r.m.Clone(), slices.Clone(r.came)
	r.frames, r.done = slices.Clone(r.frames), slices.Clone(r.done)
	return r
}

// there: what is in the slots, in the order in which they were written.
func there(m *cell.Memory) (out []pile.Item) {
	var l []cell.Cell
	for i := 2; i < m.Len(); i++ {
		if c := m.Read(i); c.N == 1 {
			l = append(l, c)
		}
	}
	slices.SortFunc(l, func(c, d cell.Cell) int { return int(c.Ver) - int(d.Ver) })
	for _, c := range l {
		out = append(out, c.L...)
	}
	return out
}

// step: of operation k; its answer. P9.2, P9.3 and P9.4 are asked.
func (r *run) step(t *testing.T, s op.Machine, k int) op.Answer {
	t.Helper()
	before, f := r.m.Clone(), &r.frames[k]
	a, done := s.Step(r.m, f)
	r.done[k] = done
	at := rises(t, before, r.m)
	switch {
	case !a.Ok:
		if !same(a, op.Answer{}) || at >= 2 || done && at >= 0 {
			t.Fatalf("a step of %+v, which isn't Ok: %+v; cell %d was written", f.Op, a, at)
		}
	case !done || at < 2 || a.N != 0:
		t.Fatalf("a step of %+v: %+v, %v; cell %d was written", f.Op, a, done, at)
	case f.Kind == op.Enq:
		r.came = append(r.came, canon(f.Item))
	default:
		gone := before.Read(at)
		place := 0 // how many of all that is there came ahead
		for i := 2; i < before.Len(); i++ {
			if c := before.Read(i); c.N == 1 && c.Ver < gone.Ver {
				place++
			}
		}
		if place >= r.k || gone.N != 1 || !exact(gone.L[0], a.Item) || !exact(r.came[place], a.Item) {
			t.Fatalf("%+v went, and %d came ahead of it: there was %v", a.Item, place, r.came)
		}
		r.came = slices.Delete(slices.Clone(r.came), place, place+1)
	}
	if !slices.EqualFunc(there(r.m), r.came, exact) {
		t.Fatalf("there is %v; what came, less what went: %v", there(r.m), r.came)
	}
	return a
}

// rises: which cell was written between two memories (-1: none; there may be one). P9.4 is asked.
func rises(t *testing.T, before, m *cell.Memory) int {
	t.Helper()
	at := -1
	for i := range m.Len() {
		c, d := before.Read(i), m.Read(i)
		if c.Ver == d.Ver {
			continue
		}
		if at = i; i < 2 && d.N != c.N+1 || i >= 2 && (d.N != c.N+1 || d.N > 2) {
			t.Fatalf("cell %d was %d, and is %d", i, c.N, d.N)
		}
		if len(d.L) != 0 && (i < 2 || d.N != 1) || i >= 2 && d.N == 1 && len(d.L) != 1 {
			t.Fatalf("cell %d is %v", i, d.Value)
		}
	}
	if writes := m.Clock() - before.Clock(); writes > 1 || (writes == 1) != (at >= 0) {
		t.Fatalf("%d writes in one step", writes)
	}
	if m.Read(0).N > m.Read(1).N {
		t.Fatalf("the Head is at %d, the Tail at %d", m.Read(0).N, m.Read(1).N)
	}
	return at
}

// every: all ways in which the operations may go past one another; how many there are.
func every(t *testing.T, s op.Machine, r run) int {
	t.Helper()
	ways := 0
	for k := range r.frames {
		if !r.done[k] {
			next := r.fork()
			next.step(t, s, k)
			ways += every(t, s, next)
		}
	}
	return max(ways, 1)
}

// vals: items of these numbers.
func vals(l ...int64) (out []pile.Item) {
	for _, n := range l {
		out = append(out, val(n))
	}
	return out
}

// P9.2, P9.3, P9.4: whichever way a few operations go past one another.
func TestEveryWay(t *testing.T) {
	for _, c := range []struct {
		k    int
		came []pile.Item
		l    []op.Op
		ways int
	}{
		{2, nil, []op.Op{enq(val(1), 0), enq(val(1), 1)}, 20},
		{1, nil, []op.Op{deq(0), deq(0)}, 20},
		{1, nil, []op.Op{enq(val(1), 0), enq(val(2), 0)}, 0},
		{1, nil, []op.Op{enq(val(1), 0), deq(0)}, 0},
		{1, vals(1), []op.Op{enq(val(2), 0), deq(0)}, 0},
		{1, vals(1, 2), []op.Op{deq(0), deq(0)}, 0},
		{2, vals(1, 2), []op.Op{deq(0), enq(val(3), 1)}, 0},
		{2, vals(1, 2, 3), []op.Op{deq(1), deq(1)}, 0},
		{2, vals(1), []op.Op{deq(0), deq(0)}, 0},
		{3, vals(1, 1), []op.Op{enq(val(1), 0), deq(1)}, 0},
	} {
		ways := every(t, made(t, c.k), begun(t, c.k, c.came, c.l...))
		if c.ways > 0 && ways != c.ways {
			t.Errorf("k %d, %v: %d ways; want %d", c.k, c.l, ways, c.ways)
		}
	}
}

// P9.2, P9.3, P9.4: three operations, of which the first ones have done some steps; then whichever way they go past one another.
func TestEveryWayOfThree(t *testing.T) {
	for _, c := range []struct {
		k    int
		came []pile.Item
		l    []op.Op
		done []int
	}{
		{1, nil, []op.Op{enq(val(1), 0), enq(val(2), 0), deq(0)}, []int{0, 1, 1}},
		{1, vals(1), []op.Op{deq(0), deq(0), enq(val(2), 0)}, []int{3, 3, 2}},
		{2, vals(1, 2), []op.Op{deq(0), deq(0), deq(1)}, []int{2, 2, 2}},
		{2, vals(1), []op.Op{enq(val(1), 0), enq(val(1), 1), deq(1)}, []int{3, 2, 3}},
	} {
		q, r := made(t, c.k), begun(t, c.k, c.came, c.l...)
		for k, steps := range c.done {
			for range steps {
				r.step(t, q, k)
			}
		}
		if ways := every(t, q, r); ways < 100 {
			t.Errorf("k %d, %v: %d ways", c.k, c.l, ways)
		}
	}
}

// A tale is what the chapter says of an operation, as one text from its begin to its end, with a pause behind each step; it is broken off where that answers false.
type tale = iter.Seq2[op.Answer, bool]

// order: the slots of a segment, as they are read.
func order(k, draw int) (out []int) {
	first := ((draw % k) + k) % k
	for j := first; j < k; j++ {
		out = append(out, j)
	}
	for j := range first {
		out = append(out, j)
	}
	return out
}

func told(k int, m *cell.Memory, o op.Op) tale {
	if o.Kind == op.Deq {
		return toldDeq(k, m, o.Draw[0])
	}
	x := canon(o.Item)
	return func(pause func(op.Answer, bool) bool) {
	anew:
		for {
			tail := m.Read(1)
			if 2+(tail.N+1)*int64(k) > 1000 {
				pause(op.Answer{}, true)
				return
			}
			if !pause(op.Answer{}, false) {
				return
			}
			for _, j := range order(k, o.Draw[0]) {
				c := m.Read(slot(k, tail.N, j))
				if !pause(op.Answer{}, false) {
					return
				}
				if c.N != 0 {
					continue
				}
				if m.Write(slot(k, tail.N, j), c.Ver, cell.Value{N: 1, L: []pile.Item{x}}) {
					pause(op.Answer{Ok: true, Item: x}, true)
					return
				}
				if !pause(op.Answer{}, false) {
					return
				}
				continue anew
			}
			m.Write(1, tail.Ver, cell.Value{N: tail.N + 1})
			if !pause(op.Answer{}, false) {
				return
			}
		}
	}
}

func toldDeq(k int, m *cell.Memory, draw int) tale {
	return func(pause func(op.Answer, bool) bool) {
	anew:
		for {
			head := m.Read(0)
			if !pause(op.Answer{}, false) {
				return
			}
			tail := m.Read(1)
			if !pause(op.Answer{}, false) {
				return
			}
			empty := 0
			for n, j := range order(k, draw) {
				c := m.Read(slot(k, head.N, j))
				if c.N == 0 {
					empty++
				}
				if n == k-1 && c.N != 1 && empty > 0 {
					pause(op.Answer{}, true)
					return
				}
				if !pause(op.Answer{}, false) {
					return
				}
				if c.N != 1 {
					continue
				}
				if m.Write(slot(k, head.N, j), c.Ver, cell.Value{N: 2}) {
					pause(op.Answer{Ok: true, Item: c.L[0]}, true)
					return
				}
				if !pause(op.Answer{}, false) {
					return
				}
				continue anew
			}
			if tail.N == head.N {
				m.Write(1, tail.Ver, cell.Value{N: head.N + 1})
			} else {
				m.Write(0, head.Ver, cell.Value{N: head.N + 1})
			}
			if !pause(op.Answer{}, false) {
				return
			}
		}
	}
}

// anyOp: of so many in a hundred an Enq.
func anyOp(seed *uint64, enqs uint64) op.Op {
	draws := []int{0, 0, 1, 2, -1, 5, math.MinInt, math.MaxInt}
	o := deq(draws[next(seed)%8])
	if next(seed)%100 < enqs {
		l := priorities()
		o.Kind, o.Item = op.Enq, pile.Item{Pri: l[next(seed)%uint64(len(l))], Val: int64(next(seed)%3) - 1}
	}
	return o
}

// P9.1 to P9.4: up to six operations at a time, with any picks among them, step by step beside what the chapter says; in the end there is no room any more, and then nothing is there.
func TestAnyPicks(t *testing.T) {
	seed := uint64(7)
	for _, k := range []int{1, 2, 3, 7, 16} {
		q, r, twin := made(t, k), begun(t, k, nil), cell.New()
		for _, m := range []*cell.Memory{r.m, twin} { // so near the last cell that there is no room in the end
			m.Force(0, cell.Value{N: last(k) + 1 - int64(120/k)})
			m.Force(1, cell.Value{N: last(k) + 1 - int64(120/k)})
		}
		r.frames, r.done = make([]op.Frame, 6), slices.Repeat([]bool{true}, 6)
		tales, full, none := make([]func() (op.Answer, bool, bool), 6), 0, 0
		for round := range 6000 {
			i := int(next(&seed) % 6)
			if r.done[i] {
				o := anyOp(&seed, []uint64{50, 40, 80, 50, 90, 5}[round/1000])
				r.frames[i] = op.Frame{Op: o}
				step, stop := iter.Pull2(told(k, twin, o))
				tales[i] = step
				defer stop()
			}
			a := r.step(t, q, i)
			if b, done, _ := tales[i](); !same(a, b) || done != r.done[i] || !alike(r.m, twin) {
				t.Fatalf("k %d: %+v: %+v, %v; told: %+v, %v", k, r.frames[i].Op, a, r.done[i], b, done)
			}
			if r.done[i] && !a.Ok && r.frames[i].Kind == op.Enq {
				full++
			} else if r.done[i] && !a.Ok {
				none++
			}
		}
		if full == 0 || none == 0 || len(r.came) != 0 {
			t.Errorf("k %d: %d had no room, %d found nothing, %d are left", k, full, none, len(r.came))
		}
	}
}

// P9.2, P9.3, P9.5: alone, one behind the other, a Deq isn't Ok just if nothing is there; of one slot each what came goes in that order.
func TestAlone(t *testing.T) {
	seed := uint64(9)
	for _, k := range []int{1, 2, 3, 16} {
		q, r, none, line := made(t, k), begun(t, k, nil), 0, []pile.Item(nil)
		for round := range 1500 {
			o := anyOp(&seed, []uint64{60, 30}[round/20%2])
			some := len(r.came) > 0
			r.frames, r.done = []op.Frame{{Op: o}}, []bool{false}
			var a op.Answer
			for steps := 0; !r.done[0]; steps++ {
				if a = r.step(t, q, 0); steps > 3*(k+3) {
					t.Fatalf("%+v, alone, doesn't end", o)
				}
			}
			if o.Kind == op.Enq {
				if a.Ok {
					line = append(line, a.Item)
				}
				continue
			}
			if a.Ok != some {
				t.Fatalf("%+v: %+v; is anything there: %v", o, a, some)
			}
			if !a.Ok {
				none++
				continue
			}
			if k == 1 {
				if !exact(a.Item, line[0]) {
					t.Fatalf("%+v went; the eldest is %+v", a.Item, line[0])
				}
				line = line[1:]
			}
		}
		if none == 0 {
			t.Errorf("k %d: there was always something", k)
		}
	}
}

// P9.3: with one slot each, whichever way six threads go past one another, what came goes in that order; of values that are all different.
func TestOneSlot(t *testing.T) {
	seed := uint64(21)
	q, m := made(t, 1), cell.New()
	frames, count, came, went := make([]*op.Frame, 6), int64(0), []int64(nil), []int64(nil)
	for range 40000 {
		i := int(next(&seed) % 6)
		if frames[i] == nil {
			if frames[i] = frame(deq(0)); next(&seed)%2 == 0 {
				count++
				frames[i] = frame(enq(val(count), 0))
			}
		}
		a, done := q.Step(m, frames[i])
		if done && a.Ok && frames[i].Kind == op.Enq {
			came = append(came, a.Item.Val)
		} else if done && a.Ok {
			went = append(went, a.Item.Val)
		}
		if done {
			frames[i] = nil
		}
	}
	if len(came) != 998 || !slices.Equal(came, went) {
		t.Errorf("%d came, %d went, in the order in which they came: %v", len(came), len(went), slices.Equal(came, went))
	}
}

// P9.2, P9.5: as many items as there are slots of whole segments come, and all of them go; then no more comes.
func TestFill(t *testing.T) {
	for k := 1; k <= 16; k++ {
		q, m, room := made(t, k), cell.New(), (1000-2)/k*k
		for n := range room {
			if a, done := op.Alone(q, m, enq(val(int64(n)), n*7), k+3+k+3); !done || !a.Ok {
				t.Fatalf("k %d: Enq %d: %+v, %v", k, n, a, done)
			}
		}
		for range 2 {
			if a, done := op.Alone(q, m, enq(val(-1), 0), 2*k+6); !done || a.Ok || m.Read(1).N != last(k)+1 {
				t.Fatalf("k %d: there is no room any more: %+v, %v", k, a, done)
			}
		}
		got := make([]bool, room)
		for n := range room {
			a, done := op.Alone(q, m, deq(n*5), 3*k+9)
			if !done || !a.Ok || got[a.Item.Val] || a.Item.Val/int64(k) != int64(n/k) {
				t.Fatalf("k %d: Deq %d: %+v, %v", k, n, a, done)
			}
			got[a.Item.Val] = true
		}
		for range 2 {
			if a, done := op.Alone(q, m, deq(0), 3*k+9); !done || a.Ok || m.Read(0).N != last(k)+1 {
				t.Fatalf("k %d: nothing is there any more: %+v, %v", k, a, done)
			}
			if a, done := op.Alone(q, m, enq(val(-1), 0), 1); !done || a.Ok {
				t.Fatalf("k %d: a slot that was Taken isn't Empty again: %+v, %v", k, a, done)
			}
		}
	}
}
