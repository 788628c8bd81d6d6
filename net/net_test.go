package net_test

import (
	"iter"
	"math"
	"reflect"
	"slices"
	"testing"

	"carryover/api"
	"carryover/cell"
	"carryover/net"
	"carryover/op"
	"carryover/pile"
	"carryover/wire"
)

// A Net is a machine.
var _ op.Machine = net.Net{}

// next: numbers that look like chance, the same ones each time.
func next(seed *uint64) uint64 {
	*seed = *seed*6364136223846793005 + 1442695040888963407
	x := *seed ^ *seed>>29
	return x * 0x9e3779b97f4a7c15 >> 16
}

// A size is a width that may be: how many gates it has, and how many of them a token passes.
type size struct{ width, gates, depth int }

func sizes() []size {
	return []size{{1, 0, 0}, {2, 1, 1}, {4, 6, 3}, {8, 24, 6}, {16, 80, 10}}
}

func made(t *testing.T, width int) net.Net {
	t.Helper()
	n, e := net.New(width)
	if e != api.OK {
		t.Fatalf("New(%d): %d", width, e)
	}
	return n
}

func token(draw int) op.Op {
	return op.Op{Kind: op.Next, Draw: [2]int{draw, 0}}
}

func frame(o op.Op) *op.Frame {
	return &op.Frame{Op: o}
}

// ns: what so many cells have, from the first one on.
func ns(m *cell.Memory, count int) (out []int64) {
	for i := range count {
		out = append(out, m.Read(i).N)
	}
	return out
}

// laid: a memory whose first cells have these.
func laid(l ...int64) *cell.Memory {
	m := cell.New()
	for i, n := range l {
		m.Force(i, cell.Value{N: n})
	}
	return m
}

// alike: have two memories the same cells, with the same versions, and the same clock?
func alike(m, n *cell.Memory) bool {
	if m.Len() != n.Len() || m.Clock() != n.Clock() {
		return false
	}
	for i := range m.Len() {
		c, d := m.Read(i), n.Read(i)
		if c.Ver != d.Ver || c.N != d.N || len(c.L) != 0 || len(d.L) != 0 {
			return false
		}
	}
	return true
}

// stepped: a step with this answer, by which this cell, and it alone, was written once, with one more.
func stepped(t *testing.T, s op.Machine, m *cell.Memory, f *op.Frame, want op.Answer, over bool, at int) {
	t.Helper()
	n, o := m.Clone(), f.Op
	a, done := s.Step(m, f)
	if a != want || done != over {
		t.Fatalf("a step of %+v: %+v, %v; want %+v, %v", o, a, done, want, over)
	}
	n.Force(at, cell.Value{N: n.Read(at).N + 1})
	if !alike(m, n) {
		t.Fatalf("a step of %+v: not one more in cell %d alone: %v; want %v", o, at, ns(m, m.Len()), ns(n, n.Len()))
	}
	if f.Op != o {
		t.Fatalf("the operation is another one: %+v; was %+v", f.Op, o)
	}
}

// passes: steps that take the token through these gates, one by one.
func passes(t *testing.T, s op.Machine, m *cell.Memory, f *op.Frame, gates ...int) {
	t.Helper()
	for _, at := range gates {
		stepped(t, s, m, f, op.Answer{}, false, at)
	}
}

// leaves: the last step, by which the token goes out, and gets a number.
func leaves(t *testing.T, s op.Machine, m *cell.Memory, f *op.Frame, at int, number int64) {
	t.Helper()
	stepped(t, s, m, f, op.Answer{Ok: true, N: number}, true, at)
}

// P11.1: which widths may be: it has that width's plan; beside an error the Net is a zero one.
func TestNew(t *testing.T) {
	var legal []int
	for _, c := range sizes() {
		legal = append(legal, c.width)
		p, _ := wire.Make(c.width)
		if n := made(t, c.width); !reflect.DeepEqual(n.Plan, p) || n.Width != c.width || len(n.Gates) != c.gates || len(n.Outs) != c.width {
			t.Errorf("New(%d): %v", c.width, n)
		}
	}
	others := []int{math.MinInt, math.MaxInt, 1 << 32, 1<<32 + 2, -1 << 32, 1 << 62}
	for width := -40; width <= 300; width++ {
		if !slices.Contains(legal, width) {
			others = append(others, width)
		}
	}
	for _, width := range others {
		if n, e := net.New(width); e != api.ErrParam || !reflect.DeepEqual(n, net.Net{}) {
			t.Errorf("New(%d): %v, %d", width, n, e)
		}
	}
}

// P11.1, K3: two that are made share nothing.
func TestNewApart(t *testing.T) {
	for _, c := range sizes() {
		n, other := made(t, c.width), made(t, c.width)
		clear(other.Gates[:cap(other.Gates)])
		clear(other.Outs[:cap(other.Outs)])
		if p, _ := wire.Make(c.width); !reflect.DeepEqual(n.Plan, p) || !reflect.DeepEqual(made(t, c.width).Plan, p) {
			t.Errorf("New(%d): %v", c.width, n)
		}
	}
}

// P11.1: the places' cells are behind the gates', from the first one to the last one.
func TestOut(t *testing.T) {
	for _, c := range sizes() {
		n := made(t, c.width)
		for place := range c.width {
			if got := n.Out(place); got != c.gates+place {
				t.Errorf("width %d: Out(%d): %d; want %d", c.width, place, got, c.gates+place)
			}
		}
	}
	for _, place := range []int{-1, 16, math.MinInt, math.MaxInt} { // no place: it ends all the same
		made(t, 16).Out(place)
	}
}

// P11.1: the example.
func TestExample(t *testing.T) {
	n, m := made(t, 4), cell.New()
	for want := range int64(2) {
		if a, done := op.Alone(n, m, token(3), 4); !done || a != (op.Answer{Ok: true, N: want}) {
			t.Errorf("Next: %+v, %v; want %d", a, done, want)
		}
	}
}

// P11.1: a token upon the one wire of width 1 goes out by its first step, whatever it draws; the number is what the cell had.
func TestWidthOne(t *testing.T) {
	n := made(t, 1)
	for _, draw := range []int{0, 1, 7, -1, -7, math.MinInt, math.MaxInt} {
		for _, had := range []int64{0, 1, 2, 1 << 50, math.MaxInt64 - 1} {
			leaves(t, n, laid(had), frame(token(draw)), 0, had)
		}
		leaves(t, n, cell.New(), frame(token(draw)), 0, 0)
	}
}

// P11.1: the first gate is that of the wire that the first draw says.
func TestDraws(t *testing.T) {
	for _, c := range []struct{ width, draw, gate int }{
		{2, 0, 0}, {2, 1, 0}, {2, -1, 0}, {2, math.MinInt, 0}, {2, math.MaxInt, 0},
		{4, 0, 0}, {4, 1, 0}, {4, 2, 1}, {4, 3, 1}, {4, 4, 0}, {4, 6, 1}, {4, -1, 1}, {4, -2, 1}, {4, -3, 0}, {4, -4, 0}, {4, -5, 1},
		{4, math.MinInt, 0}, {4, math.MinInt + 1, 0}, {4, math.MinInt + 2, 1}, {4, math.MaxInt, 1}, {4, math.MaxInt - 2, 0}, {4, 1<<32 + 1, 0}, {4, -1 << 32, 0},
		{8, 3, 1}, {8, 4, 6}, {8, 6, 7}, {8, -1, 7}, {8, -5, 1}, {8, 13, 6}, {8, math.MinInt, 0}, {8, math.MaxInt, 7},
		{16, 7, 7}, {16, 8, 24}, {16, 15, 31}, {16, -1, 31}, {16, -16, 0}, {16, -17, 31}, {16, 16, 0}, {16, math.MinInt, 0}, {16, math.MinInt + 10, 25}, {16, math.MaxInt, 31},
	} {
		for _, second := range []int{0, 1, c.draw + 2, math.MinInt} { // the second draw says nothing, nor does an item
			o := op.Op{Kind: op.Next, Item: pile.Item{Pri: math.Inf(1), Val: int64(second)}, Draw: [2]int{c.draw, second}}
			passes(t, made(t, c.width), cell.New(), frame(o), c.gate)
		}
	}
}

// P11.1: by hand, of 4 wires, whose gates are 0 1, 2 3, 0 3, 1 2, 0 1, 3 2, and which go out 0, 1, 3, 2: a token upon each wire, one by one.
func TestByHand(t *testing.T) {
	n, m := made(t, 4), cell.New()
	for k, c := range []struct {
		draw  int
		gates []int
		out   int
	}{
		{0, []int{0, 2, 4}, 6}, // upon 0, 0, 0
		{1, []int{0, 3, 4}, 7}, // upon 1, 1, 1
		{2, []int{1, 3, 5}, 8}, // upon 2, 2, 3
		{3, []int{1, 2, 5}, 9}, // upon 3, 3, 2
		{3, []int{1, 3, 4}, 6}, // upon 2, 1, 0
		{3, []int{1, 2, 4}, 7}, // upon 3, 0, 1
	} {
		f := frame(token(c.draw))
		passes(t, n, m, f, c.gates...)
		leaves(t, n, m, f, c.out, int64(k))
	}
	if got := ns(m, m.Len()); !slices.Equal(got, []int64{2, 4, 3, 3, 4, 2, 2, 2, 1, 1}) {
		t.Errorf("the cells have %v", got)
	}
}

// P11.1: a gate that was passed an even number of times lets the token on upon A, an odd one upon B.
func TestByTurns(t *testing.T) {
	n := made(t, 2)
	for _, even := range []int64{0, 2, 4, 1 << 32, 1 << 50, math.MaxInt64 - 1, -2, math.MinInt64} {
		for odd := range int64(2) {
			m, f := laid(even+odd, 10, 20), frame(token(1))
			passes(t, n, m, f, 0)
			if odd == 0 {
				leaves(t, n, m, f, 1, 20)
			} else {
				leaves(t, n, m, f, 2, 41)
			}
		}
	}
	n = made(t, 4)
	for turns := range int64(8) { // of three gates, one bit each
		m := laid(turns&1, 0, turns>>1&1, turns>>1&1, turns>>2&1, turns>>2&1)
		want := [][]int{{0, 2, 4, 6}, {0, 3, 4, 6}, {0, 2, 5, 8}, {0, 3, 5, 8}, {0, 2, 4, 7}, {0, 3, 4, 7}, {0, 2, 5, 9}, {0, 3, 5, 9}}[turns]
		f := frame(token(0))
		passes(t, n, m, f, want[:3]...)
		leaves(t, n, m, f, want[3], int64(want[3]-6))
	}
}

// P11.1: the number is the place, and the width times what its cell had.
func TestNumbers(t *testing.T) {
	for _, c := range sizes() {
		n := made(t, c.width)
		for place := range c.width {
			for _, had := range []int64{0, 1, 2, 3, 1 << 46, 1<<46 + 1} {
				m := laidHolding(n, int64(place)+int64(c.width)*had)
				a, done := op.Alone(n, m, token(5), c.depth+1)
				if !done || a != (op.Answer{Ok: true, N: int64(place) + int64(c.width)*had}) || m.Read(n.Out(place)).N != had+1 {
					t.Errorf("width %d: place %d, which had %d: %+v, %v", c.width, place, had, a, done)
				}
			}
		}
	}
}

// laidHolding: a memory of a network through which so many went.
func laidHolding(n net.Net, count int64) *cell.Memory {
	gates, outs := n.Pass(wire.Even(count, n.Width))
	return laid(slices.Concat(gates, outs)...)
}

// P11.1: two tokens go past one another before a gate, and behind it: who passes it first goes on upon A, whoever goes out first.
func TestPast(t *testing.T) {
	n := made(t, 2)
	for _, first := range []int{0, 1} { // who passes first
		for _, out := range []int{0, 1} { // who goes out first
			m, l := cell.New(), []*op.Frame{frame(token(0)), frame(token(1))}
			passes(t, n, m, l[first], 0)
			passes(t, n, m, l[1-first], 0)
			for _, k := range []int{out, 1 - out} {
				if k == first {
					leaves(t, n, m, l[k], 1, 0)
				} else {
					leaves(t, n, m, l[k], 2, 1)
				}
			}
		}
	}
	// two upon A go past one another behind the gate: who goes out first gets the lesser number
	m, a, b, c := cell.New(), frame(token(0)), frame(token(0)), frame(token(0))
	passes(t, n, m, a, 0)
	passes(t, n, m, b, 0)
	passes(t, n, m, c, 0)
	leaves(t, n, m, c, 1, 0)
	leaves(t, n, m, a, 1, 2)
	leaves(t, n, m, b, 2, 1)
	// of 4 wires: one that waits ahead of its second gate is passed by another one, which then goes ahead of it
	n, m = made(t, 4), cell.New()
	a, b = frame(token(0)), frame(token(3))
	passes(t, n, m, a, 0)    // upon 0, ahead of gate 2
	passes(t, n, m, b, 1, 3) // upon 2, upon 1
	passes(t, n, m, a, 2, 4) // upon 0, upon 0
	passes(t, n, m, b, 4)    // upon 1
	leaves(t, n, m, b, 7, 1)
	leaves(t, n, m, a, 6, 0)
}

// P11.1: a token under way is in its frame alone: copies of one go on at copies of the memory, by any Net of that width, each its own way.
func TestCopies(t *testing.T) {
	for steps := range 4 {
		m, f := laidHolding(made(t, 4), 6), frame(token(2))
		want := []int{1, 3, 5} // behind 6 that went: upon 2, 2, 3
		passes(t, made(t, 4), m, f, want[:steps]...)
		for range 3 {
			copied, g := m.Clone(), *f
			passes(t, made(t, 4), copied, &g, want[steps:]...)
			leaves(t, made(t, 4), copied, &g, 8, 6)
		}
	}
}

// P11.1, P1: a step of an operation that is no Net's, and one of a Net that nobody made, end.
func TestOthers(t *testing.T) {
	for _, kind := range []int{0, op.Insert, op.Delete, op.Enq, op.Deq, op.Add, op.Sum, 8, -1, math.MaxInt} {
		m := laid(1, 2, 3)
		for range 3 {
			made(t, 2).Step(m, frame(op.Op{Kind: kind}))
		}
	}
	net.Net{}.Step(cell.New(), frame(token(3)))
}

// A run is tokens under way at one memory, and the numbers of those that went out.
type run struct {
	n       net.Net
	m       *cell.Memory
	frames  []op.Frame
	came    []bool // has it done a step?
	done    []bool
	many    int64 // how many came
	numbers map[int64]bool
}

func begun(n net.Net, l ...op.Op) run {
	r := run{n: n, m: cell.New(), came: make([]bool, len(l)), done: make([]bool, len(l)), numbers: map[int64]bool{}}
	for _, o := range l {
		r.frames = append(r.frames, op.Frame{Op: o})
	}
	return r
}

// fork: a copy, which goes its own way.
func (r run) fork() run {
	r.m, r.frames = r.m.Clone(), slices.Clone(r.frames)
	r.came, r.done = slices.Clone(r.came), slices.Clone(r.done)
	numbers := map[int64]bool{}
	for k := range r.numbers {
		numbers[k] = true
	}
	r.numbers = numbers
	return r
}

// step: of token k; its answer. What P11.2 says of numbers while others are under way is asked, and that a step is one write of one more.
func (r *run) step(t *testing.T, k int) op.Answer {
	t.Helper()
	before, f := ns(r.m, 100), &r.frames[k]
	if !r.came[k] {
		r.came[k] = true
		r.many++
	}
	clock := r.m.Clock()
	a, done := r.n.Step(r.m, f)
	r.done[k] = done
	at := -1
	for i, n := range ns(r.m, 100) {
		if n == before[i] {
			continue
		}
		if n != before[i]+1 || at >= 0 || done != (i >= len(r.n.Gates)) {
			t.Fatalf("a step of %+v: cell %d was %d, and is %d; done: %v", f.Op, i, before[i], n, done)
		}
		at = i
	}
	if at < 0 || r.m.Clock() != clock+1 || a.Ok != done || !done && a != (op.Answer{}) {
		t.Fatalf("a step of %+v: %+v, %v; cell %d, clock %d", f.Op, a, done, at, r.m.Clock())
	}
	if done {
		if r.numbers[a.N] || a.N < 0 || a.N >= r.many || a != (op.Answer{Ok: true, N: a.N}) {
			t.Fatalf("a number %d; %d came; given were %v", a.N, r.many, r.numbers)
		}
		r.numbers[a.N] = true
	}
	return a
}

// quiet: with nobody under way P11.2 and P11.3 are asked.
func (r run) quiet(t *testing.T) {
	t.Helper()
	if int64(len(r.numbers)) != r.many {
		t.Fatalf("%d came, and %d have numbers", r.many, len(r.numbers))
	}
	for k := range r.many {
		if !r.numbers[k] {
			t.Fatalf("width %d: %d came, and nobody got %d", r.n.Width, r.many, k)
		}
	}
	outs := ns(r.m, r.n.Out(r.n.Width))[r.n.Out(0):]
	if !slices.Equal(outs, wire.Even(r.many, r.n.Width)) {
		t.Fatalf("width %d: what went out isn't Even: %v", r.n.Width, outs)
	}
}

// every: all ways in which the tokens may go past one another; how many there are.
func every(t *testing.T, r run) int {
	t.Helper()
	ways := 0
	for k := range r.frames {
		if !r.done[k] {
			then := r.fork()
			then.step(t, k)
			ways += every(t, then)
		}
	}
	if ways == 0 {
		r.quiet(t)
		return 1
	}
	return ways
}

func tokens(draws ...int) (out []op.Op) {
	for _, d := range draws {
		out = append(out, token(d))
	}
	return out
}

// P11.2, P11.3: whichever way a few tokens go past one another; how many ways there are hangs on how many steps each has.
func TestEveryWay(t *testing.T) {
	for _, c := range []struct {
		width int
		draws []int
		ways  int
	}{
		{1, []int{0, 0, 0, 0}, 24},
		{2, []int{0, 0, 0}, 90},
		{2, []int{0, 1, -1, 1}, 2520},
		{4, []int{0, 3}, 70},
		{4, []int{0, 1, 2}, 34650},
		{4, []int{3, 3, 3}, 34650},
		{4, []int{-1, 0, 0}, 34650},
		{8, []int{0, 7}, 3432},
		{8, []int{4, 4}, 3432},
	} {
		if ways := every(t, begun(made(t, c.width), tokens(c.draws...)...)); ways != c.ways {
			t.Errorf("width %d, %v: %d ways; want %d", c.width, c.draws, ways, c.ways)
		}
	}
}

// P11.2, P11.3: some have gone out already, and some are under way; then whichever way they go past one another.
func TestEveryWayOn(t *testing.T) {
	for _, c := range []struct {
		width int
		draws []int
		steps []int
		ways  int
	}{
		{2, []int{0, 0, 0, 0, 0, 1}, []int{2, 1, 1, 1, 1, 0}, 360},
		{4, []int{0, 1, 2, 3, 3, 1}, []int{4, 3, 3, 3, 2, 2}, 1260},
		{4, []int{0, 0, 0, 0, 0, 0}, []int{4, 4, 4, 2, 2, 1}, 210},
		{8, []int{0, 5, 5, 1, 2, 7}, []int{7, 7, 6, 6, 5, 5}, 180},
		{16, []int{0, 15, 9, 4, 4, 4}, []int{11, 10, 10, 9, 8, 11}, 420},
	} {
		r := begun(made(t, c.width), tokens(c.draws...)...)
		for k, steps := range c.steps {
			for range steps {
				r.step(t, k)
			}
		}
		if ways := every(t, r); ways != c.ways {
			t.Errorf("width %d, %v: %d ways; want %d", c.width, c.draws, ways, c.ways)
		}
	}
}

// A tale is what the chapter says of a token, as one text from its begin to its end, with a pause behind each step; it is broken off where that answers false.
type tale = iter.Seq2[op.Answer, bool]

func told(p wire.Plan, m *cell.Memory, draw int) tale {
	return func(pause func(op.Answer, bool) bool) {
		at := ((draw % p.Width) + p.Width) % p.Width
		for i, g := range p.Gates {
			if at != g.A && at != g.B {
				continue
			}
			had := m.Read(i).N
			m.Force(i, cell.Value{N: had + 1})
			if at = g.A; had%2 == 1 {
				at = g.B
			}
			if !pause(op.Answer{}, false) {
				return
			}
		}
		for place, w := range p.Outs {
			if w == at {
				c := len(p.Gates) + place
				had := m.Read(c).N
				m.Force(c, cell.Value{N: had + 1})
				pause(op.Answer{Ok: true, N: int64(place) + int64(p.Width)*had}, true)
			}
		}
	}
}

func anyDraw(seed *uint64) int {
	draws := []int{0, 0, 1, 2, 3, -1, -7, 5, 9, 12, 15, 17, math.MinInt, math.MinInt + 3, math.MaxInt, math.MaxInt - 5}
	return draws[next(seed)%uint64(len(draws))]
}

// P11.1, P11.2, P11.3: up to six tokens at a time, with any picks among them, step by step beside what the chapter says; now and then none is under way.
func TestAnyPicks(t *testing.T) {
	seed := uint64(17)
	for _, c := range sizes() {
		p, _ := wire.Make(c.width)
		r, twin := begun(made(t, c.width)), cell.New()
		r.frames, r.came, r.done = make([]op.Frame, 6), make([]bool, 6), slices.Repeat([]bool{true}, 6)
		tales, quiet := make([]func() (op.Answer, bool, bool), 6), 0
		for round := range 6000 {
			i := int(next(&seed) % 6)
			if r.done[i] && round%300 > 200 { // who is under way goes out, and no other one comes
				if !slices.Contains(r.done, false) {
					r.quiet(t)
					quiet++
				}
				continue
			}
			if r.done[i] {
				o := token(anyDraw(&seed))
				r.frames[i], r.came[i], r.done[i] = op.Frame{Op: o}, false, false
				step, stop := iter.Pull2(told(p, twin, o.Draw[0]))
				tales[i] = step
				defer stop()
			}
			a := r.step(t, i)
			if b, done, _ := tales[i](); a != b || done != r.done[i] || !alike(r.m, twin) {
				t.Fatalf("width %d: %+v: %+v, %v; told: %+v, %v", c.width, r.frames[i].Op, a, r.done[i], b, done)
			}
		}
		if quiet == 0 || r.many < 100 {
			t.Errorf("width %d: %d came; %d times none was under way", c.width, r.many, quiet)
		}
	}
}

// P11.2, P11.3: many tokens at once, upon wires that are all the same, or one behind the other, or any; any picks among them, or always the youngest, one between, the eldest, one of the eldest, the eldest or the youngest.
func TestManyAtOnce(t *testing.T) {
	seed := uint64(18)
	for _, c := range sizes() {
		for _, many := range []int{1, 2, c.width - 1, c.width, c.width + 1, 8, 3*c.width + 1, 50} {
			for way := range 6 {
				var l []op.Op
				for k := range many {
					l = append(l, token([]int{anyDraw(&seed), 0, -1, k, k / 2, -k}[way]))
				}
				r := begun(made(t, c.width), l...)
				left := upTo(many)
				for len(left) > 0 {
					among, anyOne := len(left), int(next(&seed)>>8)
					i := []int{anyOne % among, among - 1, among / 2, 0, anyOne % min(3, among), (among - 1) * (anyOne % 2)}[way]
					if r.step(t, left[i]); r.done[left[i]] {
						left = slices.Delete(left, i, i+1)
					}
				}
				r.quiet(t)
			}
		}
	}
}

// upTo: 0, 1, 2, and so on.
func upTo(n int) (out []int) {
	for i := range n {
		out = append(out, i)
	}
	return out
}

// P11.2, P11.3: all pass their first gate, then all their second one, and so on, in some order each time.
func TestAbreast(t *testing.T) {
	seed := uint64(19)
	for _, c := range sizes() {
		for many := 1; many <= 40; many += 3 {
			r := begun(made(t, c.width))
			for range many {
				r.frames = append(r.frames, op.Frame{Op: token(anyDraw(&seed))})
			}
			r.came, r.done = make([]bool, many), make([]bool, many)
			for level := range c.depth + 1 {
				left := upTo(many)
				for len(left) > 0 {
					i := int(next(&seed) % uint64(len(left)))
					r.step(t, left[i])
					if r.done[left[i]] != (level == c.depth) {
						t.Fatalf("width %d: done behind %d steps: %v", c.width, level+1, r.done[left[i]])
					}
					left = slices.Delete(left, i, i+1)
				}
			}
			r.quiet(t)
		}
	}
}

// P11.4: one by one tokens get 0, 1, 2, and so on, whatever they draw; each passes so many gates, and goes out.
func TestOneByOne(t *testing.T) {
	seed := uint64(20)
	for _, c := range sizes() {
		for _, draw := range []func(k int) int{
			func(int) int { return 0 }, func(int) int { return -1 }, func(k int) int { return k }, func(k int) int { return k * k },
			func(int) int { return math.MinInt }, func(int) int { return math.MaxInt }, func(int) int { return anyDraw(&seed) }, func(int) int { return int(next(&seed)) },
		} {
			n, m := made(t, c.width), cell.New()
			for k := range 100 {
				d := draw(k)
				if _, done := op.Alone(n, m.Clone(), token(d), c.depth); done {
					t.Fatalf("width %d: done behind %d steps", c.width, c.depth)
				}
				if a, done := op.Alone(n, m, token(d), c.depth+1); !done || a != (op.Answer{Ok: true, N: int64(k)}) {
					t.Fatalf("width %d: token %d upon %d: %+v, %v", c.width, k, d, a, done)
				}
				if outs := ns(m, n.Out(c.width))[n.Out(0):]; !slices.Equal(outs, wire.Even(int64(k+1), c.width)) {
					t.Fatalf("width %d: behind %d tokens: %v", c.width, k+1, outs)
				}
			}
			if m.Len() > c.gates+c.width || m.Clock() != uint64(100*(c.depth+1)) {
				t.Errorf("width %d: %d cells, clock %d", c.width, m.Len(), m.Clock())
			}
		}
	}
}

// P11.1, P11.3: a network that held so many goes on with that, and what passed each gate is what Pass says.
func TestGoesOn(t *testing.T) {
	seed := uint64(22)
	for _, c := range sizes() {
		n := made(t, c.width)
		for _, held := range []int64{0, 1, 7, 15, 16, 17, 1000003, api.MaxTotal - 20} {
			m := laidHolding(n, held)
			for k := range int64(20) {
				if a, done := op.Alone(n, m, token(anyDraw(&seed)), c.depth+1); !done || a.N != held+k {
					t.Fatalf("width %d: held %d: %+v, %v", c.width, held+k, a, done)
				}
			}
		}
		in, m := make([]int64, c.width), cell.New()
		for range 60 {
			at := int(next(&seed) % uint64(c.width))
			in[at]++
			op.Alone(n, m, token(at), c.depth+1)
			gates, outs := n.Pass(in)
			if want := slices.Concat(gates, outs); !slices.Equal(ns(m, len(want)), want) {
				t.Fatalf("width %d: %v came: %v; want %v", c.width, in, ns(m, len(want)), want)
			}
		}
	}
}
