package engine_test

import (
	"math"
	"slices"
	"testing"

	"carryover/api"
	"carryover/cell"
	"carryover/engine"
	"carryover/kfifo"
	"carryover/multi"
	"carryover/net"
	"carryover/op"
	"carryover/pile"
	"carryover/tally"
	"carryover/value"
)

// next: numbers that look like chance, the same ones each time.
func next(seed *uint64) uint64 {
	*seed = *seed*6364136223846793005 + 1442695040888963407
	x := *seed ^ *seed>>29
	return x * 0x9e3779b97f4a7c15 >> 16
}

func kinds() []int {
	return []int{api.Multi, api.Kfifo, api.Tally, api.Net}
}

// params: those that a kind may have.
func params(kind int) []int {
	if kind == api.Net {
		return []int{1, 2, 4, 8, 16}
	}
	return []int{1, 2, 3, 4, 5, 6, 7, 8, 9, 10, 11, 12, 13, 14, 15, 16}
}

func made(t *testing.T, kind, param int) *engine.Engine {
	t.Helper()
	e, err := engine.New(kind, param)
	if err != api.OK || e == nil {
		t.Fatalf("New(%d, %d): %v, %d", kind, param, e, err)
	}
	return e
}

func add(n int64, draw int) op.Op {
	return op.Op{Kind: op.Add, Item: pile.Item{Val: n}, Draw: [2]int{draw, 0}}
}

func does(kind int) op.Op {
	return op.Op{Kind: kind}
}

// comes: an operation with an item of this number.
func comes(kind int, n int64, draw int) op.Op {
	return op.Op{Kind: kind, Item: pile.Item{Pri: float64(n), Val: n}, Draw: [2]int{draw, 0}}
}

// same: are two operations one, bit by bit?
func same(o, p op.Op) bool {
	return exact(o.Item, p.Item) && o.Kind == p.Kind && o.Draw == p.Draw
}

func exact(x, y pile.Item) bool {
	return math.Float64bits(x.Pri) == math.Float64bits(y.Pri) && x.Val == y.Val
}

func alikeAnswers(a, b op.Answer) bool {
	return a.Ok == b.Ok && a.N == b.N && exact(a.Item, b.Item)
}

// alike: have two memories the same cells, bit by bit, with the same versions, and the same clock?
func alike(m, n *cell.Memory) bool {
	if m.Len() != n.Len() || m.Clock() != n.Clock() {
		return false
	}
	for i := range m.Len() {
		c, d := m.Read(i), n.Read(i)
		if c.Ver != d.Ver || c.N != d.N || !slices.EqualFunc(c.L, d.L, exact) {
			return false
		}
	}
	return true
}

// is: has a value all that another one has, bit by bit?
func is(v, w value.Value) bool {
	return v.Kind == w.Kind && v.N == w.N && slices.EqualFunc(v.Items, w.Items, exact)
}

func begins(t *testing.T, e *engine.Engine, thread int, o op.Op) {
	t.Helper()
	if err := e.Begin(thread, o); err != api.OK {
		t.Fatalf("Begin(%d, %+v): %d", thread, o, err)
	}
}

// picked: a step of this thread's operation, done by it or not, with this answer.
func picked(t *testing.T, e *engine.Engine, pick int, want engine.Event) {
	t.Helper()
	steps := e.Steps()
	v, some := e.Pick(pick)
	if !some || v.Thread != want.Thread || v.Done != want.Done || !same(v.Op, want.Op) || !alikeAnswers(v.Answer, want.Answer) {
		t.Fatalf("Pick(%d): %+v, %v; want %+v", pick, v, some, want)
	}
	if e.Steps() != steps+1 {
		t.Fatalf("Pick(%d): %d steps; there were %d", pick, e.Steps(), steps)
	}
	if slices.Contains(e.Busy(), v.Thread) == v.Done {
		t.Fatalf("Pick(%d): %+v; busy are %v", pick, v, e.Busy())
	}
}

// ok: the last step of an operation, which was done.
func ok(thread int, o op.Op, item pile.Item, n int64) engine.Event {
	return engine.Event{Thread: thread, Op: o, Done: true, Answer: op.Answer{Ok: true, Item: item, N: n}}
}

// P13.1: which structures may be; a new one holds nothing, nothing was written in it, it is open, and nobody is busy.
func TestNew(t *testing.T) {
	for _, kind := range kinds() {
		for _, param := range params(kind) {
			e := made(t, kind, param)
			if e.Kind() != kind || e.Param() != param || e.Steps() != 0 || e.Closed() || len(e.Busy()) != 0 {
				t.Errorf("New(%d, %d): %d, %d; %d steps, closed: %v, busy: %v", kind, param, e.Kind(), e.Param(), e.Steps(), e.Closed(), e.Busy())
			}
			if e.Memory() == nil || !alike(e.Memory(), cell.New()) || !is(e.Value(), value.Value{Kind: kind}) {
				t.Errorf("New(%d, %d): holds %+v", kind, param, e.Value())
			}
			if v, some := e.Pick(0); some || v != (engine.Event{}) || e.Steps() != 0 {
				t.Errorf("New(%d, %d): Pick: %+v, %v", kind, param, v, some)
			}
		}
	}
}

// refused: neither New nor With makes such an engine.
func refused(t *testing.T, kind, param int, want api.Errno) {
	t.Helper()
	m := cell.New()
	m.Force(2, cell.Value{N: 5})
	before := m.Clone()
	if e, err := engine.New(kind, param); e != nil || err != want {
		t.Errorf("New(%d, %d): %v, %d; want %d", kind, param, e, err, want)
	}
	if e, err := engine.With(kind, param, m); e != nil || err != want || !alike(m, before) {
		t.Errorf("With(%d, %d): %v, %d; want %d", kind, param, e, err, want)
	}
}

// P13.1: kinds that there are none of, ahead of parameters that may not be: nil beside Legal's error.
func TestNewErrors(t *testing.T) {
	for _, kind := range []int{0, 5, 6, -1, 100, 1 << 32, 1<<32 + 1, math.MinInt, math.MaxInt} {
		for _, param := range []int{1, 0, 16, 17, -1, math.MinInt, math.MaxInt} {
			refused(t, kind, param, api.ErrKind)
		}
	}
	for _, kind := range kinds() {
		for _, param := range []int{0, 17, 18, -1, -16, 32, 1 << 32, 1<<32 + 1, 1<<32 + 4, math.MinInt, math.MaxInt} {
			refused(t, kind, param, api.ErrParam)
		}
	}
	for param := range 17 {
		if !slices.Contains(params(api.Net), param) {
			refused(t, api.Net, param, api.ErrParam)
		}
	}
}

// P13.1: With keeps the memory that it is given, and goes on with what the structure held.
func TestWith(t *testing.T) {
	m := cell.New()
	m.Force(0, cell.Value{N: 7})
	m.Force(1, cell.Value{N: 5})
	before := m.Clone()
	e, err := engine.With(api.Tally, 2, m)
	if err != api.OK || e.Memory() != m || !alike(m, before) || e.Value().N != 12 || e.Steps() != 0 || e.Closed() || len(e.Busy()) != 0 {
		t.Fatalf("With: %d; holds %+v, %d steps, closed: %v, busy: %v", err, e.Value(), e.Steps(), e.Closed(), e.Busy())
	}
	begins(t, e, 5, add(3, 1))
	picked(t, e, 0, engine.Event{Thread: 5, Op: add(3, 1)})
	picked(t, e, 0, ok(5, add(3, 1), pile.Item{}, 0))
	if c := m.Read(1); c.N != 8 || c.Ver != 3 || e.Value().N != 15 {
		t.Errorf("With: shard 1: %+v; holds %+v", c, e.Value())
	}
	m.Force(0, cell.Value{N: 1000}) // the memory is the structure's, whoever writes in it
	if e.Value().N != 1008 || e.Memory().Read(0).N != 1000 {
		t.Errorf("With: holds %+v", e.Value())
	}
}

// P13.1: With, of each kind: what another engine's threads left behind is gone on with, and what they were at isn't.
func TestWithGoesOn(t *testing.T) {
	for _, c := range []struct {
		kind, param int
		in, out     op.Op
		held        value.Value
		want        op.Answer
	}{
		{api.Multi, 2, comes(op.Insert, 4, 1), op.Op{Kind: op.Delete, Draw: [2]int{0, 1}}, value.Value{Items: []pile.Item{{Pri: 4, Val: 4}}}, op.Answer{Ok: true, Item: pile.Item{Pri: 4, Val: 4}}},
		{api.Kfifo, 2, comes(op.Enq, 4, 1), does(op.Deq), value.Value{Items: []pile.Item{{Pri: 4, Val: 4}}}, op.Answer{Ok: true, Item: pile.Item{Pri: 4, Val: 4}}},
		{api.Tally, 2, add(4, 1), does(op.Sum), value.Value{N: 4}, op.Answer{Ok: true, N: 4}},
		{api.Net, 2, does(op.Next), does(op.Next), value.Value{N: 1}, op.Answer{Ok: true, N: 1}},
	} {
		first := made(t, c.kind, c.param)
		begins(t, first, 3, c.in)
		for len(first.Busy()) > 0 {
			first.Pick(0)
		}
		begins(t, first, 2, c.out)
		first.Close()
		e, err := engine.With(c.kind, c.param, first.Memory().Clone())
		c.held.Kind = c.kind
		if err != api.OK || !is(e.Value(), c.held) || e.Steps() != 0 || e.Closed() || len(e.Busy()) != 0 {
			t.Fatalf("With(%d, %d): %d; holds %+v, busy: %v", c.kind, c.param, err, e.Value(), e.Busy())
		}
		begins(t, e, 2, c.out)
		for {
			v, some := e.Pick(0)
			if !some || v.Done && !alikeAnswers(v.Answer, c.want) {
				t.Fatalf("With(%d, %d): %+v, %v; want %+v", c.kind, c.param, v, some, c.want)
			}
			if v.Done {
				break
			}
		}
	}
}

// P13.1: the example.
func TestExample(t *testing.T) {
	e := made(t, api.Net, 1)
	begins(t, e, 2, does(op.Next))
	picked(t, e, 9, ok(2, does(op.Next), pile.Item{}, 0))
}

// P13.1: of several errors of a Begin the one that is named first is answered; nothing has changed by it.
func TestBeginErrors(t *testing.T) {
	good, none, wrong := add(3, 0), does(op.Next), add(-1, 0)
	for _, c := range []struct {
		thread int
		closed bool
		o      op.Op
		want   api.Errno
	}{
		{1, false, good, api.OK}, {0, false, good, api.OK}, {5, false, good, api.OK}, {1, false, does(op.Sum), api.OK},
		{1, false, add(0, 0), api.OK}, {1, false, add(1<<32, 0), api.OK},
		{4, false, good, api.ErrBusy}, {4, false, does(op.Sum), api.ErrBusy},
		{4, false, none, api.ErrKind}, {1, false, none, api.ErrKind}, {1, false, does(0), api.ErrKind}, {1, false, does(8), api.ErrKind}, {1, false, does(-1), api.ErrKind}, {1, false, does(op.Insert), api.ErrKind},
		{4, false, wrong, api.ErrArg}, {1, false, wrong, api.ErrArg}, {1, false, add(1<<32+1, 0), api.ErrArg}, {1, false, add(math.MinInt64, 0), api.ErrArg}, {1, false, add(math.MaxInt64, 0), api.ErrArg},
		{1, true, good, api.ErrState}, {1, true, none, api.ErrState}, {1, true, wrong, api.ErrState}, {4, true, good, api.ErrState}, {4, true, none, api.ErrState}, {4, true, wrong, api.ErrState},
	} {
		begun(t, c.thread, c.closed, c.o, c.want)
	}
	for _, thread := range []int{-1, 6, 7, -6, 1 << 32, 1<<32 + 1, -1 << 32, math.MinInt, math.MaxInt} {
		for _, closed := range []bool{false, true} {
			for _, o := range []op.Op{good, none, wrong} {
				begun(t, thread, closed, o, api.ErrArg)
			}
		}
	}
}

// begun: a Begin at a Tally of which thread 4 is at a Sum, one shard of which it has read.
func begun(t *testing.T, thread int, closed bool, o op.Op, want api.Errno) {
	t.Helper()
	m := cell.New()
	m.Force(1, cell.Value{N: 9})
	e, _ := engine.With(api.Tally, 2, m)
	begins(t, e, 4, does(op.Sum))
	picked(t, e, 0, engine.Event{Thread: 4, Op: does(op.Sum)})
	if closed {
		e.Close()
	}
	before := m.Clone()
	if err := e.Begin(thread, o); err != want {
		t.Errorf("Begin(%d, %+v), closed %v: %d; want %d", thread, o, closed, err, want)
	}
	busy := []int{4}
	if want == api.OK {
		busy = []int{min(thread, 4), max(thread, 4)}
	}
	if !slices.Equal(e.Busy(), busy) || e.Steps() != 1 || e.Closed() != closed || !alike(m, before) {
		t.Errorf("Begin(%d, %+v): busy %v, %d steps, closed %v", thread, o, e.Busy(), e.Steps(), e.Closed())
	}
	picked(t, e, slices.Index(busy, 4), ok(4, does(op.Sum), pile.Item{}, 9))
}

// P13.1: which operations begin at which structures.
func TestBeginKinds(t *testing.T) {
	for _, kind := range kinds() {
		for k := -2; k <= 10; k++ {
			e, want := made(t, kind, 2), api.ErrKind
			if slices.Contains(op.Of(kind), k) {
				want = api.OK
			}
			if err := e.Begin(0, does(k)); err != want || (len(e.Busy()) == 1) != (want == api.OK) {
				t.Errorf("kind %d: Begin of %d: %d; want %d", kind, k, err, want)
			}
		}
	}
}

// P13.1: a thread that is done may begin anew, and only then.
func TestBeginAnew(t *testing.T) {
	e := made(t, api.Tally, 1)
	for n := range int64(5) {
		begins(t, e, 0, add(n, 0))
		for range 2 {
			if err := e.Begin(0, add(100, 0)); err != api.ErrBusy {
				t.Fatalf("Begin: %d", err)
			}
			e.Pick(0)
		}
	}
	if e.Value().N != 10 || e.Steps() != 10 {
		t.Errorf("holds %+v, behind %d steps", e.Value(), e.Steps())
	}
}

// P13.1: whoever is busy, the pick says which of them steps: their steps are those of their own operations.
func TestPickWhose(t *testing.T) {
	for set := 1; set < 64; set++ {
		var busy []int
		for thread := range 6 {
			if set>>thread&1 == 1 {
				busy = append(busy, thread)
			}
		}
		n := len(busy)
		for _, c := range []struct{ pick, at int }{
			{0, 0}, {n - 1, n - 1}, {n, 0}, {n / 2, n / 2}, {7*n + n/2, n / 2}, {-1, n - 1}, {-n, 0}, {-n - 1, n - 1},
			{math.MaxInt, math.MaxInt % n}, {math.MinInt, (n - int(uint64(1<<63)%uint64(n))) % n}, {1 << 32, (1 << 32) % n},
		} {
			e := made(t, api.Tally, 16)
			for k := range busy { // begun from the last one to the first
				thread := busy[n-1-k]
				begins(t, e, thread, add(int64(thread), thread))
			}
			if !slices.Equal(e.Busy(), busy) {
				t.Fatalf("Busy: %v; want %v", e.Busy(), busy)
			}
			thread := busy[c.at]
			o := add(int64(thread), thread)
			picked(t, e, c.pick, engine.Event{Thread: thread, Op: o})
			picked(t, e, c.pick, ok(thread, o, pile.Item{}, 0))
			if e.Memory().Read(thread).N != int64(thread) || e.Memory().Clock() != 1 {
				t.Fatalf("Pick(%d): the shards hold %+v", c.pick, e.Value())
			}
		}
	}
}

// P13.1: with nobody busy nothing is done, whatever the pick; a step that changes nothing counts all the same.
func TestPickNobody(t *testing.T) {
	e := made(t, api.Multi, 1)
	for round := range 3 {
		for _, pick := range []int{0, 1, 5, -1, math.MinInt, math.MaxInt} {
			if v, some := e.Pick(pick); some || v != (engine.Event{}) || e.Steps() != 2*round {
				t.Errorf("Pick(%d): %+v, %v; %d steps", pick, v, some, e.Steps())
			}
		}
		begins(t, e, 3, does(op.Delete))
		picked(t, e, 0, engine.Event{Thread: 3, Op: does(op.Delete)})
		picked(t, e, 0, engine.Event{Thread: 3, Op: does(op.Delete), Done: true}) // nothing is there
	}
	if e.Memory().Clock() != 0 {
		t.Errorf("%d writes", e.Memory().Clock())
	}
}

// P13.1: the gate: nothing begins while it is closed, and who is busy goes on; to close it, or to open it, twice is no more than once.
func TestGate(t *testing.T) {
	e, o := made(t, api.Kfifo, 1), comes(op.Enq, 7, 0)
	e.Open()
	begins(t, e, 1, o)
	for range 2 {
		e.Close()
		if err := e.Begin(0, o); !e.Closed() || err != api.ErrState {
			t.Errorf("closed: %v, %d", e.Closed(), err)
		}
	}
	picked(t, e, 0, engine.Event{Thread: 1, Op: o})
	picked(t, e, 0, engine.Event{Thread: 1, Op: o})
	picked(t, e, 0, ok(1, o, o.Item, 0))
	if err := e.Begin(1, o); err != api.ErrState || len(e.Busy()) != 0 || e.Steps() != 3 || !e.Closed() {
		t.Errorf("Begin: %d; busy: %v", err, e.Busy())
	}
	for range 2 {
		e.Open()
		if e.Closed() || e.Steps() != 3 || len(e.Value().Items) != 1 {
			t.Errorf("open: %v, %d steps, holds %+v", e.Closed(), e.Steps(), e.Value())
		}
	}
	begins(t, e, 1, o)
}

// P13.1: by hand, a Multi of one shard: an Insert between a Delete's read and its write; the Delete begins anew.
func TestMultiByHand(t *testing.T) {
	e, one, two, del := made(t, api.Multi, 1), comes(op.Insert, 1, 0), comes(op.Insert, 2, 0), does(op.Delete)
	begins(t, e, 0, two)
	picked(t, e, 0, engine.Event{Op: two})
	picked(t, e, 0, ok(0, two, two.Item, 0))
	begins(t, e, 1, del)
	begins(t, e, 0, one)
	picked(t, e, 1, engine.Event{Thread: 1, Op: del}) // reads the shard
	picked(t, e, 1, engine.Event{Thread: 1, Op: del}) // and again
	picked(t, e, 0, engine.Event{Op: one})
	picked(t, e, 0, ok(0, one, one.Item, 0))
	picked(t, e, 0, engine.Event{Thread: 1, Op: del}) // a write that fails
	if !is(e.Value(), value.Value{Kind: api.Multi, Items: []pile.Item{one.Item, two.Item}}) {
		t.Errorf("holds %+v", e.Value())
	}
	picked(t, e, 0, engine.Event{Thread: 1, Op: del})
	picked(t, e, 0, engine.Event{Thread: 1, Op: del})
	picked(t, e, 0, ok(1, del, one.Item, 0))
	if !is(e.Value(), value.Value{Kind: api.Multi, Items: []pile.Item{two.Item}}) || e.Steps() != 10 {
		t.Errorf("holds %+v, behind %d steps", e.Value(), e.Steps())
	}
}

// P13.1: by hand, a Kfifo of one slot a segment: two Enqs at the same slot; who comes too late goes on to the next segment.
func TestKfifoByHand(t *testing.T) {
	e, one, two := made(t, api.Kfifo, 1), comes(op.Enq, 1, 0), comes(op.Enq, 2, 0)
	begins(t, e, 0, one)
	begins(t, e, 5, two)
	for range 2 { // each reads the Tail, then the slot
		picked(t, e, 0, engine.Event{Op: one})
		picked(t, e, 1, engine.Event{Thread: 5, Op: two})
	}
	picked(t, e, 1, ok(5, two, two.Item, 0))
	for range 6 { // a write that fails; the Tail, the slot, and the Tail moves on; the Tail, the slot
		picked(t, e, 0, engine.Event{Op: one})
	}
	if e.Memory().Read(kfifo.Tail).N != 1 {
		t.Errorf("the Tail: %+v", e.Memory().Read(kfifo.Tail))
	}
	picked(t, e, 0, ok(0, one, one.Item, 0))
	if !is(e.Value(), value.Value{Kind: api.Kfifo, Items: []pile.Item{two.Item, one.Item}}) || e.Steps() != 12 {
		t.Errorf("holds %+v, behind %d steps", e.Value(), e.Steps())
	}
}

// P13.1: by hand, a Net of two wires: who passes the gate first, but goes out last, has the lesser number all the same.
func TestNetByHand(t *testing.T) {
	e, o := made(t, api.Net, 2), does(op.Next)
	begins(t, e, 4, o)
	begins(t, e, 3, o)
	picked(t, e, 1, engine.Event{Thread: 4, Op: o})
	picked(t, e, 0, engine.Event{Thread: 3, Op: o})
	picked(t, e, 0, ok(3, o, pile.Item{}, 1))
	if e.Value().N != 1 {
		t.Errorf("holds %+v", e.Value())
	}
	picked(t, e, 0, ok(4, o, pile.Item{}, 0))
	if e.Value().N != 2 || !slices.Equal([]int64{e.Memory().Read(0).N, e.Memory().Read(1).N, e.Memory().Read(2).N}, []int64{2, 1, 1}) {
		t.Errorf("holds %+v", e.Value())
	}
}

// P13.1: an event has the operation as it was begun, bit by bit, from the first step to the last one; the answer's item is canonical.
func TestEventOp(t *testing.T) {
	for _, bits := range []uint64{0x7ff0000000000001, 0xfff8000000000000, 0x7fffffffffffffff, 1 << 63, 0} {
		f := math.Float64frombits(bits)
		for kind, at := range map[int]int{op.Insert: api.Multi, op.Enq: api.Kfifo} {
			o := op.Op{Kind: kind, Item: pile.Item{Pri: f, Val: -5}, Draw: [2]int{math.MinInt, math.MaxInt}}
			e := made(t, at, 16)
			begins(t, e, 0, o)
			for k := range 2 + at - api.Multi {
				if k < 1+at-api.Multi {
					picked(t, e, 0, engine.Event{Op: o})
				} else {
					picked(t, e, 0, ok(0, o, o.Item.Canon(), 0))
				}
			}
		}
	}
}

// P13.1, K3: what is answered shares nothing with the engine, but the memory, which is the structure's; engines share nothing.
func TestApart(t *testing.T) {
	e, other := made(t, api.Multi, 2), made(t, api.Multi, 2)
	o := comes(op.Insert, 3, 0)
	begins(t, e, 2, o)
	begins(t, e, 4, o)
	l := e.Busy()
	clear(l[:cap(l)])
	if !slices.Equal(e.Busy(), []int{2, 4}) || len(other.Busy()) != 0 {
		t.Errorf("Busy: %v, %v", e.Busy(), other.Busy())
	}
	first := e.Busy()
	for range 2 {
		e.Pick(0)
	}
	v := e.Value()
	w := e.Value()
	clear(w.Items)
	if !slices.Equal(first, []int{2, 4}) || !is(e.Value(), v) || len(v.Items) != 1 || v.Items[0] != o.Item {
		t.Errorf("holds %+v; busy were %v", e.Value(), first)
	}
	for len(e.Busy()) > 0 {
		e.Pick(0)
	}
	e.Close()
	if len(v.Items) != 1 || len(e.Value().Items) != 2 || e.Memory() != e.Memory() {
		t.Errorf("held %+v; holds %+v", v, e.Value())
	}
	if other.Closed() || other.Steps() != 0 || !alike(other.Memory(), cell.New()) {
		t.Errorf("another engine: %d steps, holds %+v", other.Steps(), other.Value())
	}
}

// machine: of the layers below.
func machine(t *testing.T, kind, param int) (s op.Machine) {
	t.Helper()
	switch kind {
	case api.Multi:
		s, _ = multi.New(param)
	case api.Kfifo:
		s, _ = kfifo.New(param)
	case api.Tally:
		s, _ = tally.New(param)
	case api.Net:
		s, _ = net.New(param)
	}
	return s
}

// A twin is what the chapter says of an engine, of which the machine's steps are made one by one.
type twin struct {
	kind, param int
	s           op.Machine
	m           *cell.Memory
	at          map[int]*op.Frame
	closed      bool
	steps       int
}

func (w *twin) begin(thread int, o op.Op) api.Errno {
	switch {
	case thread < 0 || thread > 5:
		return api.ErrArg
	case w.closed:
		return api.ErrState
	case o.Check(w.kind) != api.OK:
		return o.Check(w.kind)
	case w.at[thread] != nil:
		return api.ErrBusy
	}
	w.at[thread] = &op.Frame{Op: o}
	return api.OK
}

func (w *twin) busy() (l []int) {
	for thread := range 6 {
		if w.at[thread] != nil {
			l = append(l, thread)
		}
	}
	return l
}

func (w *twin) pick(pick int) (engine.Event, bool) {
	l := w.busy()
	if len(l) == 0 {
		return engine.Event{}, false
	}
	thread := l[((pick%len(l))+len(l))%len(l)]
	f := w.at[thread]
	a, done := w.s.Step(w.m, f)
	w.steps++
	if done {
		delete(w.at, thread)
	}
	return engine.Event{Thread: thread, Op: f.Op, Done: done, Answer: a}, true
}

func anyDraw(seed *uint64) int {
	draws := []int{0, 0, 0, 1, 2, 3, -1, 15, 16, math.MinInt, math.MaxInt}
	return draws[next(seed)%uint64(len(draws))]
}

// anyOp: of a kind, or now and then one that may not be; of those by which something comes more than of the others.
func anyOp(seed *uint64, kind int) op.Op {
	x := pile.Item{Pri: []float64{0, 1, 1, math.Copysign(0, -1), math.NaN(), math.Inf(-1)}[next(seed)%6], Val: int64(next(seed) % 4)}
	o := op.Op{Item: x, Draw: [2]int{anyDraw(seed), anyDraw(seed)}}
	switch l := op.Of(kind); next(seed) % 16 {
	case 0:
		o.Kind = int(next(seed)%11) - 1
	case 1:
		o.Kind, o.Val = l[0], []int64{-1, 1 << 32, 1<<32 + 1, math.MinInt64}[next(seed)%4]
	case 2, 3, 4, 5, 6:
		o.Kind = l[len(l)-1]
	default:
		o.Kind = l[0]
	}
	return o
}

// P13.1: any calls, beside what the chapter says: what they answer, and what the engine is behind each of them.
func TestAnyCalls(t *testing.T) {
	seed := uint64(71)
	for _, kind := range kinds() {
		for _, param := range params(kind) {
			for range 12 {
				e := made(t, kind, param)
				w := &twin{kind: kind, param: param, s: machine(t, kind, param), m: cell.New(), at: map[int]*op.Frame{}}
				for range 400 {
					anyCall(t, &seed, e, w)
					agree(t, e, w)
				}
			}
		}
	}
}

func anyCall(t *testing.T, seed *uint64, e *engine.Engine, w *twin) {
	t.Helper()
	switch x := next(seed) % 40; {
	case x == 0:
		e.Close()
		w.closed = true
	case x < 4:
		e.Open()
		w.closed = false
	case x < 16:
		thread, o := int(next(seed)%8)-1, anyOp(seed, e.Kind())
		if got, want := e.Begin(thread, o), w.begin(thread, o); got != want {
			t.Fatalf("Begin(%d, %+v): %d; want %d", thread, o, got, want)
		}
	default:
		pick := []int{int(next(seed) % 6), -int(next(seed) % 50), math.MinInt, math.MaxInt, int(next(seed))}[next(seed)%5]
		got, some := e.Pick(pick)
		want, any := w.pick(pick)
		if some != any || got.Thread != want.Thread || got.Done != want.Done || !same(got.Op, want.Op) || !alikeAnswers(got.Answer, want.Answer) {
			t.Fatalf("Pick(%d): %+v, %v; want %+v, %v", pick, got, some, want, any)
		}
	}
}

func agree(t *testing.T, e *engine.Engine, w *twin) {
	t.Helper()
	if e.Kind() != w.kind || e.Param() != w.param || e.Steps() != w.steps || e.Closed() != w.closed || !slices.Equal(e.Busy(), w.busy()) {
		t.Fatalf("kind %d, %d: %d steps, closed %v, busy %v; want %d, %v, %v", e.Kind(), e.Param(), e.Steps(), e.Closed(), e.Busy(), w.steps, w.closed, w.busy())
	}
	if !alike(e.Memory(), w.m) {
		t.Fatalf("kind %d, %d: the memories aren't alike", w.kind, w.param)
	}
	if v, _ := value.Of(w.kind, w.param, w.m); !is(e.Value(), v) {
		t.Fatalf("kind %d, %d: holds %+v; want %+v", w.kind, w.param, e.Value(), v)
	}
}

// A drain is a way to pick, by how many steps there were since the gate was closed.
type drain func(k int) int

func drains(seed *uint64) []drain {
	return []drain{
		func(int) int { return 0 },               // always the first one
		func(int) int { return -1 },              // the last one
		func(k int) int { return k },             // one behind the other
		func(k int) int { return -k },            // the other way round
		func(k int) int { return k / 2 },         // each two steps
		func(k int) int { return k / 3 },         // or three
		func(k int) int { return -(k % 2) },      // the first and the last one, by turns
		func(k int) int { return k * k },         // some more often than others
		func(int) int { return math.MaxInt },     // as that falls
		func(int) int { return int(next(seed)) }, // any
	}
}

// ended: with the gate closed, all operations end, in so many steps at the most; how many there were.
func ended(t *testing.T, e *engine.Engine, pick drain, most int) int {
	t.Helper()
	e.Close()
	steps := e.Steps()
	for k := 0; len(e.Busy()) > 0; k++ {
		if k == most {
			t.Fatalf("kind %d, %d: busy behind %d steps: %v", e.Kind(), e.Param(), most, e.Busy())
		}
		before := e.Busy()
		v, some := e.Pick(pick(k))
		if !some || !slices.Contains(before, v.Thread) || len(e.Busy()) > len(before) {
			t.Fatalf("kind %d, %d: Pick: %+v, %v; busy %v, then %v", e.Kind(), e.Param(), v, some, before, e.Busy())
		}
	}
	if v, some := e.Pick(pick(0)); some || v != (engine.Event{}) {
		t.Fatalf("kind %d, %d: nobody is busy, and %+v", e.Kind(), e.Param(), v)
	}
	return e.Steps() - steps
}

// P13.2: behind any 60 calls of a new engine, whoever is picked then.
func TestEnds(t *testing.T) {
	seed := uint64(72)
	for _, kind := range kinds() {
		for _, param := range params(kind) {
			for _, pick := range drains(&seed) {
				for round := range 20 {
					e := made(t, kind, param)
					w := &twin{kind: kind, param: param, s: machine(t, kind, param), m: cell.New(), at: map[int]*op.Frame{}}
					for range 10 + 50*(round%2) {
						anyCall(t, &seed, e, w)
					}
					ended(t, e, pick, 4000)
				}
			}
		}
	}
}

// P13.2: six threads at the same cells, with nothing, or much, behind them; step by step abreast, or any other way.
func TestEndsAbreast(t *testing.T) {
	seed := uint64(73)
	for _, kind := range kinds() {
		for _, param := range params(kind) {
			for _, pick := range drains(&seed) {
				for _, ahead := range []int{0, 1, 5, 9} {
					for set := range 64 { // which operation each of the six is at
						l := op.Of(kind)
						e := made(t, kind, param)
						for n := range ahead {
							begins(t, e, 0, comes(l[0], int64(n), 0))
							for len(e.Busy()) > 0 {
								e.Pick(0)
							}
						}
						for thread := range 6 {
							begins(t, e, thread, comes(l[set>>thread&1%len(l)], int64(thread), 0))
						}
						ended(t, e, pick, 4000)
						if kind == api.Net && set == 0 {
							break
						}
					}
				}
			}
		}
	}
}

// A setting is threads at an engine, ahead of any of their steps.
type setting struct {
	kind, param int
	ahead, l    []op.Op
	fewest      int // steps by which all are done
	most        int
}

func (s setting) made(t *testing.T) *engine.Engine {
	t.Helper()
	e := made(t, s.kind, s.param)
	for _, o := range s.ahead {
		begins(t, e, 0, o)
		ended(t, e, func(int) int { return 0 }, 100)
		e.Open()
	}
	for thread, o := range s.l {
		begins(t, e, thread, o)
	}
	return e
}

// every: all ways in which they may go past one another, each made anew from the start; how many steps the shortest and the longest one has.
func (s setting) every(t *testing.T) (fewest, most int) {
	t.Helper()
	fewest = math.MaxInt
	for picks, among := []int{}, []int{}; ; {
		e := s.made(t)
		steps := ended(t, e, func(k int) int {
			if k == len(picks) {
				picks, among = append(picks, 0), append(among, len(e.Busy()))
			}
			return picks[min(k, len(picks)-1)]
		}, 60)
		fewest, most = min(fewest, steps), max(most, steps)
		picks, among = picks[:steps], among[:steps]
		for len(picks) > 0 && picks[len(picks)-1] == among[len(picks)-1]-1 {
			picks, among = picks[:len(picks)-1], among[:len(picks)-1]
		}
		if len(picks) == 0 {
			return fewest, most
		}
		picks[len(picks)-1]++
	}
}

// P13.2: every way in which a few threads go past one another ends. A write fails by somebody else's that succeeded: so many steps are made anew, and no more.
func TestEveryWayEnds(t *testing.T) {
	in := func(n int64) op.Op { return comes(op.Insert, n, 0) }
	enq := func(n int64) op.Op { return comes(op.Enq, n, 0) }
	for _, c := range []setting{
		{api.Tally, 1, nil, []op.Op{add(1, 0)}, 2, 2},
		{api.Tally, 1, nil, []op.Op{add(1, 0), add(2, 0)}, 4, 6},
		{api.Tally, 2, nil, []op.Op{add(1, 0), add(2, 1), does(op.Sum)}, 6, 6},
		{api.Tally, 1, nil, []op.Op{add(1, 0), add(2, 0), add(3, 0)}, 6, 12},
		{api.Net, 2, nil, []op.Op{does(op.Next), does(op.Next), does(op.Next)}, 6, 6},
		{api.Multi, 1, nil, []op.Op{in(1), in(2), in(3)}, 6, 12},
		{api.Multi, 1, []op.Op{in(1), in(2)}, []op.Op{does(op.Delete), does(op.Delete)}, 6, 9},
		{api.Multi, 1, nil, []op.Op{in(1), does(op.Delete)}, 4, 5},
		{api.Kfifo, 1, nil, []op.Op{enq(1), enq(2)}, 9, 12},
		{api.Kfifo, 2, []op.Op{enq(1)}, []op.Op{does(op.Deq), does(op.Deq)}, 8, 12},
	} {
		if fewest, most := c.every(t); fewest != c.fewest || most != c.most {
			t.Errorf("%+v: %d to %d steps; want %d to %d", c, fewest, most, c.fewest, c.most)
		}
	}
}
