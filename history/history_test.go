package history_test

import (
	"math"
	"reflect"
	"slices"
	"testing"

	"carryover/api"
	"carryover/cell"
	"carryover/engine"
	"carryover/history"
	"carryover/op"
	"carryover/pile"
)

// next: numbers that look like chance, the same ones each time.
func next(seed *uint64) uint64 {
	*seed = *seed*6364136223846793005 + 1442695040888963407
	x := *seed ^ *seed>>29
	return x * 0x9e3779b97f4a7c15 >> 16
}

func kinds() []int {
	return []int{api.Multi, api.Kfifo, api.Tally, api.Net}
}

func made(t *testing.T, kind, param int) *engine.Engine {
	t.Helper()
	e, err := engine.New(kind, param)
	if err != api.OK {
		t.Fatalf("New(%d, %d): %d", kind, param, err)
	}
	return e
}

func add(n int64) op.Op {
	return op.Op{Kind: op.Add, Item: pile.Item{Val: n}}
}

func sum() op.Op {
	return op.Op{Kind: op.Sum}
}

// at: a call that began behind so many steps, and was done by that one.
func at(thread, begin, end int) history.Call {
	return history.Call{Thread: thread, Begin: begin, End: end}
}

func exact(x, y pile.Item) bool {
	return math.Float64bits(x.Pri) == math.Float64bits(y.Pri) && x.Val == y.Val
}

// same: are two calls one, bit by bit?
func same(c, d history.Call) bool {
	return c.Thread == d.Thread && c.Begin == d.Begin && c.End == d.End &&
		c.Op.Kind == d.Op.Kind && exact(c.Op.Item, d.Op.Item) && c.Op.Draw == d.Op.Draw &&
		c.Answer.Ok == d.Answer.Ok && exact(c.Answer.Item, d.Answer.Item) && c.Answer.N == d.Answer.N
}

// written: what a recorder has written down is this, and in order.
func written(t *testing.T, r *history.Recorder, want ...history.Call) {
	t.Helper()
	l := r.Calls()
	if !slices.EqualFunc(l, want, same) {
		t.Fatalf("Calls:\n%+v; want\n%+v", l, want)
	}
	if err := history.Check(l); err != api.OK {
		t.Fatalf("Check of %+v: %d", l, err)
	}
}

func begins(t *testing.T, r *history.Recorder, thread int, o op.Op) {
	t.Helper()
	if err := r.Begin(thread, o); err != api.OK {
		t.Fatalf("Begin(%d, %+v): %d", thread, o, err)
	}
}

// P14.1: a new recorder has written nothing down; what it embeds is the engine it was given.
func TestOf(t *testing.T) {
	for _, kind := range kinds() {
		e := made(t, kind, 2)
		r := history.Of(e)
		written(t, r)
		if r.Engine != e || r.Kind() != kind || r.Param() != 2 || r.Memory() != e.Memory() || r.Steps() != 0 || r.Closed() || len(r.Busy()) != 0 {
			t.Errorf("Of: %d, %d, %d steps", r.Kind(), r.Param(), r.Steps())
		}
		if v, some := r.Pick(3); some || v != (engine.Event{}) {
			t.Errorf("Pick: %+v, %v", v, some)
		}
		written(t, r)
		r.Close()
		if !e.Closed() || r.Begin(0, op.Op{Kind: op.Of(kind)[0]}) != api.ErrState {
			t.Error("the recorder's gate isn't the engine's")
		}
		e.Open()
		if r.Closed() || r.Begin(0, op.Op{Kind: op.Of(kind)[0]}) != api.OK || !slices.Equal(e.Busy(), []int{0}) || len(r.Calls()) != 1 {
			t.Error("the engine's gate isn't the recorder's")
		}
	}
}

// P14.1: the example.
func TestExample(t *testing.T) {
	r := history.Of(made(t, api.Tally, 1))
	begins(t, r, 0, add(3))
	for range 2 {
		r.Pick(0)
	}
	written(t, r, history.Call{Op: add(3), End: 1, Answer: op.Answer{Ok: true}})
}

// P14.1: by hand: calls in the order of their Begins, whichever way they end; the number of the step by which each does.
func TestByHand(t *testing.T) {
	r := history.Of(made(t, api.Tally, 2))
	first, second, third := history.Call{Thread: 4, Op: sum(), End: -1}, history.Call{Thread: 1, Op: add(5), End: -1}, history.Call{Thread: 2, Op: add(7), Begin: 1, End: -1}
	begins(t, r, 4, sum())
	begins(t, r, 1, add(5))
	written(t, r, first, second)
	for step, c := range []struct {
		pick int
		want engine.Event
	}{
		{1, engine.Event{Thread: 4, Op: sum()}},
		{0, engine.Event{Thread: 1, Op: add(5)}},
		{1, engine.Event{Thread: 2, Op: add(7)}},
		{-2, engine.Event{Thread: 2, Op: add(7), Done: true, Answer: op.Answer{Ok: true}}},
		{0, engine.Event{Thread: 1, Op: add(5)}}, // a write that fails
		{9, engine.Event{Thread: 4, Op: sum(), Done: true, Answer: op.Answer{Ok: true, N: 0}}},
		{5, engine.Event{Thread: 1, Op: add(5)}},
		{5, engine.Event{Thread: 1, Op: add(5), Done: true, Answer: op.Answer{Ok: true}}},
	} {
		if step == 1 {
			begins(t, r, 2, add(7))
		}
		if v, some := r.Pick(c.pick); !some || v != c.want || r.Steps() != step+1 {
			t.Fatalf("Pick %d: %+v, %v; want %+v", step, v, some, c.want)
		}
		switch step {
		case 0:
			written(t, r, first, second)
			continue
		case 3:
			third.End, third.Answer = 3, op.Answer{Ok: true}
		case 5:
			first.End, first.Answer = 5, op.Answer{Ok: true}
		case 7:
			second.End, second.Answer = 7, op.Answer{Ok: true}
		}
		written(t, r, first, second, third)
	}
	begins(t, r, 1, sum())
	fourth := history.Call{Thread: 1, Op: sum(), Begin: 8, End: -1}
	written(t, r, first, second, third, fourth)
	r.Pick(0)
	r.Pick(0)
	fourth.End, fourth.Answer = 9, op.Answer{Ok: true, N: 12}
	written(t, r, first, second, third, fourth)
}

// P14.1: what doesn't begin isn't written down: the engine's errors, one ahead of the other.
func TestBeginErrors(t *testing.T) {
	r := history.Of(made(t, api.Tally, 1))
	begins(t, r, 3, add(1))
	r.Pick(0)
	for _, c := range []struct {
		thread int
		closed bool
		o      op.Op
		want   api.Errno
	}{
		{-1, true, op.Op{}, api.ErrArg}, {6, false, add(1), api.ErrArg}, {math.MinInt, false, add(1), api.ErrArg}, {math.MaxInt, false, add(1), api.ErrArg},
		{3, true, op.Op{}, api.ErrState}, {0, true, add(1), api.ErrState},
		{3, false, op.Op{Kind: op.Next}, api.ErrKind}, {0, false, op.Op{}, api.ErrKind},
		{3, false, add(-1), api.ErrArg}, {0, false, add(1<<32 + 1), api.ErrArg},
		{3, false, add(1), api.ErrBusy}, {3, false, sum(), api.ErrBusy},
	} {
		if c.closed {
			r.Close()
		}
		if err := r.Begin(c.thread, c.o); err != c.want {
			t.Errorf("Begin(%d, %+v): %d; want %d", c.thread, c.o, err, c.want)
		}
		r.Open()
		written(t, r, history.Call{Thread: 3, Op: add(1), End: -1})
		if !slices.Equal(r.Busy(), []int{3}) || r.Steps() != 1 {
			t.Errorf("Begin(%d, %+v): busy %v, %d steps", c.thread, c.o, r.Busy(), r.Steps())
		}
	}
	r.Pick(0)
	written(t, r, history.Call{Thread: 3, Op: add(1), End: 1, Answer: op.Answer{Ok: true}})
}

// P14.1: what threads are at already never is written down; steps that were made already are counted.
func TestOfBusy(t *testing.T) {
	e := made(t, api.Tally, 1)
	for thread := range 3 {
		e.Begin(thread, add(1))
	}
	for _, pick := range []int{0, 0, 0, 1} { // thread 0 is done, 1 and 2 have read
		e.Pick(pick)
	}
	if !slices.Equal(e.Busy(), []int{1, 2}) {
		t.Fatalf("busy: %v", e.Busy())
	}
	r := history.Of(e)
	if r.Begin(1, add(1)) != api.ErrBusy {
		t.Error("Begin of one that is busy")
	}
	written(t, r)
	begins(t, r, 0, add(1))
	call := history.Call{Op: add(1), Begin: 4, End: -1}
	written(t, r, call)
	for len(r.Busy()) == 3 {
		r.Pick(2)
	}
	for len(r.Busy()) == 2 {
		r.Pick(1)
	}
	written(t, r, call)
	begins(t, r, 2, sum())
	second := history.Call{Thread: 2, Op: sum(), Begin: r.Steps(), End: -1}
	written(t, r, call, second)
	r.Pick(1)
	second.End, second.Answer = second.Begin, op.Answer{Ok: true, N: 3}
	written(t, r, call, second)
	for len(r.Busy()) > 0 {
		r.Pick(0)
	}
	call.End, call.Answer = r.Steps()-1, op.Answer{Ok: true}
	written(t, r, call, second)
}

// P14.1: a call has the operation as it was begun, bit by bit, and the answer that the engine gave, which may be not Ok.
func TestAnswers(t *testing.T) {
	r := history.Of(made(t, api.Multi, 1))
	odd := pile.Item{Pri: math.Float64frombits(0xfff0000000000001), Val: -3}
	l := []op.Op{{Kind: op.Delete}, {Kind: op.Insert, Item: odd, Draw: [2]int{math.MinInt, math.MaxInt}}, {Kind: op.Delete, Item: odd, Draw: [2]int{7, -7}}}
	for k, o := range l {
		begins(t, r, k, o)
		for len(r.Busy()) > 0 {
			r.Pick(0)
		}
	}
	written(t, r,
		history.Call{Thread: 0, Op: l[0], Begin: 0, End: 1},
		history.Call{Thread: 1, Op: l[1], Begin: 2, End: 3, Answer: op.Answer{Ok: true, Item: odd.Canon()}},
		history.Call{Thread: 2, Op: l[2], Begin: 4, End: 6, Answer: op.Answer{Ok: true, Item: odd.Canon()}})
}

// P14.1, K3: lists that were handed out stay as they are, and the recorder's stays as it is, whatever is done with the other.
func TestApart(t *testing.T) {
	r := history.Of(made(t, api.Net, 1))
	begins(t, r, 3, op.Op{Kind: op.Next})
	before := r.Calls()
	lost := r.Calls()
	lost[0] = at(5, 9, 9)
	lost = append(lost, lost...)
	r.Pick(0)
	begins(t, r, 3, op.Op{Kind: op.Next})
	next := op.Op{Kind: op.Next}
	written(t, r, history.Call{Thread: 3, Op: next, End: 0, Answer: op.Answer{Ok: true}}, history.Call{Thread: 3, Op: next, Begin: 1, End: -1})
	if len(before) != 1 || !same(before[0], history.Call{Thread: 3, Op: next, End: -1}) || len(lost) != 2 {
		t.Errorf("a list that was handed out: %+v", before)
	}
	other := history.Of(r.Engine)
	written(t, other)
	begins(t, other, 0, next)
	if len(r.Calls()) != 2 || len(other.Calls()) != 1 || other.Calls()[0].Begin != 1 {
		t.Errorf("two recorders of one engine: %+v, %+v", r.Calls(), other.Calls())
	}
}

// P14.2: steps that the engine is asked for past the recorder are counted; a call that ends by one isn't written down as done, nor is one that begins so.
func TestPast(t *testing.T) {
	e := made(t, api.Tally, 1)
	r := history.Of(e)
	begins(t, r, 0, add(1))
	e.Pick(0)
	r.Pick(0) // the second of its steps
	done := history.Call{Op: add(1), End: 1, Answer: op.Answer{Ok: true}}
	written(t, r, done)
	e.Begin(0, add(2))
	r.Pick(0)
	r.Pick(0)
	written(t, r, done)
	begins(t, r, 0, add(3))
	begins(t, r, 5, sum())
	e.Pick(0)
	e.Pick(0)
	written(t, r, done, history.Call{Op: add(3), Begin: 4, End: -1}, history.Call{Thread: 5, Op: sum(), Begin: 4, End: -1})
	begins(t, r, 0, add(4)) // what it was at ahead of this ended, nobody knows when
	written(t, r, done, history.Call{Thread: 5, Op: sum(), Begin: 4, End: -1}, history.Call{Op: add(4), Begin: 6, End: -1})
	r.Pick(1)
	r.Pick(0)
	r.Pick(0)
	written(t, r, done,
		history.Call{Thread: 5, Op: sum(), Begin: 4, End: 6, Answer: op.Answer{Ok: true, N: 6}},
		history.Call{Op: add(4), Begin: 6, End: 8, Answer: op.Answer{Ok: true}})
}

// A book is what the chapter says of a recorder, from what was begun and what the engine answered.
type book struct {
	calls []history.Call
	open  map[int]int // by thread: which call
}

func (b *book) begun(thread int, o op.Op, steps int) {
	b.open[thread] = len(b.calls)
	b.calls = append(b.calls, history.Call{Thread: thread, Op: o, Begin: steps, End: -1})
}

func (b *book) stepped(v engine.Event, step int) {
	if k, some := b.open[v.Thread]; some && v.Done {
		b.calls[k].End, b.calls[k].Answer = step, v.Answer
		delete(b.open, v.Thread)
	}
}

func anyOp(seed *uint64, kind int) op.Op {
	l, draws := op.Of(kind), []int{0, 0, 1, -1, 3, math.MinInt}
	o := op.Op{Kind: l[next(seed)%uint64(len(l))], Item: pile.Item{Pri: []float64{0, 1, math.NaN()}[next(seed)%3], Val: int64(next(seed)%12) - 1}}
	o.Draw = [2]int{draws[next(seed)%6], draws[next(seed)%6]}
	if next(seed)%10 == 0 {
		o.Kind = int(next(seed)%10) - 1
	}
	return o
}

// P14.1, P14.2: any calls of a recorder, and of its twin, an engine that is asked the same; what is written down is in order at any time.
func TestAnyCalls(t *testing.T) {
	seed := uint64(81)
	for _, kind := range kinds() {
		for _, param := range []int{1, 2, 4, 16} {
			for ahead := range 8 { // so many threads are at something already
				e, f := made(t, kind, param), made(t, kind, param)
				for thread := range min(ahead, 6) {
					o := anyOp(&seed, kind)
					e.Begin(thread, o)
					f.Begin(thread, o)
				}
				for k := range ahead * 2 {
					e.Pick(k * k)
					f.Pick(k * k)
				}
				r, b := history.Of(e), &book{open: map[int]int{}}
				for range 250 {
					anyCall(t, &seed, r, f, b)
				}
			}
		}
	}
}

func anyCall(t *testing.T, seed *uint64, r *history.Recorder, f *engine.Engine, b *book) {
	t.Helper()
	switch x := next(seed) % 30; {
	case x == 0:
		r.Close()
		f.Close()
	case x < 4:
		r.Open()
		f.Open()
	case x < 12:
		thread, o := int(next(seed)%8)-1, anyOp(seed, r.Kind())
		got, want := r.Begin(thread, o), f.Begin(thread, o)
		if got != want {
			t.Fatalf("Begin(%d, %+v): %d; the engine says %d", thread, o, got, want)
		}
		if want == api.OK {
			b.begun(thread, o, f.Steps())
		}
	default:
		pick := int(next(seed)) - 1<<46
		got, some := r.Pick(pick)
		want, any := f.Pick(pick)
		if some != any || got.Done != want.Done || !same(history.Call{Thread: got.Thread, Op: got.Op, Answer: got.Answer}, history.Call{Thread: want.Thread, Op: want.Op, Answer: want.Answer}) {
			t.Fatalf("Pick(%d): %+v, %v; the engine says %+v, %v", pick, got, some, want, any)
		}
		b.stepped(want, f.Steps()-1)
	}
	if r.Steps() != f.Steps() || !slices.Equal(r.Busy(), f.Busy()) || r.Closed() != f.Closed() || !r.Value().Same(f.Value()) || !reflect.DeepEqual(versions(r.Memory()), versions(f.Memory())) {
		t.Fatalf("the recorder isn't as the engine is: %d steps, busy %v; %d, %v", r.Steps(), r.Busy(), f.Steps(), f.Busy())
	}
	written(t, r, b.calls...)
}

func versions(m *cell.Memory) (l []uint64) {
	for i := range m.Len() {
		l = append(l, m.Read(i).Ver)
	}
	return l
}

// P14.2: any calls of a recorder, and of its engine past it: what is written down is in order all the same.
func TestAnyPast(t *testing.T) {
	seed := uint64(82)
	for _, kind := range kinds() {
		for range 60 {
			e := made(t, kind, 2)
			r, other := history.Of(e), history.Of(e)
			for range 120 {
				thread, pick, o := int(next(&seed)%6), int(next(&seed)), anyOp(&seed, kind)
				switch next(&seed) % 8 {
				case 0:
					r.Begin(thread, o)
				case 1:
					e.Begin(thread, o)
				case 2:
					other.Begin(thread, o)
				case 3:
					e.Pick(pick)
				case 4:
					other.Pick(pick)
				default:
					r.Pick(pick)
				}
				for _, l := range [][]history.Call{r.Calls(), other.Calls()} {
					if err := history.Check(l); err != api.OK {
						t.Fatalf("Check of %+v: %d", l, err)
					}
				}
			}
		}
	}
}

// P14.1: one call is ahead of another one, if it was done, by a step ahead of the other one's Begin; who did them, and what, says nothing.
func TestAhead(t *testing.T) {
	ends := []int{math.MinInt, -3, -2, -1, 0, 1, 2, 3, 7, math.MaxInt - 1, math.MaxInt}
	for _, end := range ends {
		for _, begin := range ends {
			for _, thread := range []int{0, 3, -1, 9} {
				c, d := history.Call{Thread: 3, Op: add(2), Begin: 5, End: end, Answer: op.Answer{Ok: true, N: 4}}, at(thread, begin, -1)
				want := end >= 0 && end < begin
				if got := c.Ahead(d); got != want {
					t.Errorf("%+v ahead of %+v: %v", c, d, got)
				}
			}
		}
	}
	if c := at(0, 3, 2); !c.Ahead(c) { // one that was never made, but the words say so
		t.Errorf("%+v ahead of itself", c)
	}
}

// told: Check, as the chapter's words say it: of each call all those before.
func told(l []history.Call) api.Errno {
	for i, c := range l {
		switch {
		case c.Thread < 0 || c.Thread > 5:
			return api.ErrArg
		case c.Begin < 0, c.End < -1, c.End != -1 && c.End < c.Begin, i > 0 && c.Begin < l[i-1].Begin:
			return api.ErrOrder
		}
		for _, d := range l[:i] {
			if d.Thread == c.Thread && !(d.End >= 0 && d.End < c.Begin) || d.End >= 0 && d.End == c.End {
				return api.ErrOrder
			}
		}
	}
	return api.OK
}

// checked: Check answers this; its list stays as it is.
func checked(t *testing.T, l []history.Call, want api.Errno) {
	t.Helper()
	before := slices.Clone(l)
	if err := history.Check(l); err != want || !slices.EqualFunc(l, before, same) {
		t.Fatalf("Check of %+v: %d; want %d", l, err, want)
	}
}

// P14.1: what may have been written down, and each thing that can't have been.
func TestCheck(t *testing.T) {
	for _, c := range []struct {
		l    []history.Call
		want api.Errno
	}{
		{nil, api.OK},
		{[]history.Call{}, api.OK},
		{[]history.Call{at(0, 0, -1)}, api.OK},
		{[]history.Call{at(5, 0, 0)}, api.OK},
		{[]history.Call{at(5, math.MaxInt, math.MaxInt)}, api.OK},
		{[]history.Call{at(5, math.MaxInt, -1)}, api.OK},
		// no such thread
		{[]history.Call{at(6, 0, 0)}, api.ErrArg},
		{[]history.Call{at(-1, 0, 0)}, api.ErrArg},
		{[]history.Call{at(math.MinInt, 0, -1)}, api.ErrArg},
		{[]history.Call{at(1<<32, 0, -1)}, api.ErrArg},
		{[]history.Call{at(0, 0, -1), at(6, 0, -1)}, api.ErrArg},
		// no such Begin, no such End
		{[]history.Call{at(0, -1, -1)}, api.ErrOrder},
		{[]history.Call{at(0, -1, 4)}, api.ErrOrder},
		{[]history.Call{at(0, math.MinInt, -1)}, api.ErrOrder},
		{[]history.Call{at(0, 0, -2)}, api.ErrOrder},
		{[]history.Call{at(0, 0, math.MinInt)}, api.ErrOrder},
		{[]history.Call{at(0, 3, 2)}, api.ErrOrder},
		{[]history.Call{at(0, 1, 0)}, api.ErrOrder},
		// Begins that fall
		{[]history.Call{at(0, 3, 3), at(1, 3, 4)}, api.OK},
		{[]history.Call{at(0, 3, 3), at(1, 2, 4)}, api.ErrOrder},
		{[]history.Call{at(0, 0, 9), at(1, 5, 5), at(2, 4, 6)}, api.ErrOrder},
		{[]history.Call{at(0, 3, -1), at(1, 2, -1)}, api.ErrOrder},
		// a thread at two calls at once
		{[]history.Call{at(0, 0, 1), at(0, 2, 3)}, api.OK},
		{[]history.Call{at(0, 0, 1), at(0, 1, 3)}, api.ErrOrder},
		{[]history.Call{at(0, 0, 4), at(0, 2, 3)}, api.ErrOrder},
		{[]history.Call{at(0, 0, -1), at(0, 2, 3)}, api.ErrOrder},
		{[]history.Call{at(0, 0, -1), at(0, 2, -1)}, api.ErrOrder},
		{[]history.Call{at(0, 0, 0), at(1, 1, -1), at(0, 1, -1)}, api.OK},
		{[]history.Call{at(0, 0, 5), at(1, 1, 2), at(2, 1, 3), at(0, 4, -1)}, api.ErrOrder},
		{[]history.Call{at(0, 0, -1), at(1, 0, -1), at(2, 0, -1), at(3, 0, -1), at(4, 0, -1), at(5, 0, -1)}, api.OK},
		{[]history.Call{at(0, 0, -1), at(1, 0, -1), at(2, 0, -1), at(3, 0, -1), at(4, 0, -1), at(5, 0, -1), at(3, 7, 7)}, api.ErrOrder},
		// one step that ends two
		{[]history.Call{at(0, 0, 3), at(1, 2, 3)}, api.ErrOrder},
		{[]history.Call{at(0, 0, 3), at(1, 2, 4), at(2, 2, 3)}, api.ErrOrder},
		{[]history.Call{at(0, 0, 1), at(1, 0, 2), at(2, 0, 0)}, api.OK},
		// the first call that can't be says which error
		{[]history.Call{at(0, 3, 2), at(6, 0, 0)}, api.ErrOrder},
		{[]history.Call{at(6, 0, 0), at(0, 3, 2)}, api.ErrArg},
		{[]history.Call{at(6, -1, -7)}, api.ErrArg},
		{[]history.Call{at(0, 3, 3), at(-1, 2, 3)}, api.ErrArg},
		{[]history.Call{at(0, 0, -1), at(0, 1, 1), at(9, 1, 1)}, api.ErrOrder},
	} {
		checked(t, c.l, c.want)
		if w := told(c.l); w != c.want {
			t.Errorf("told of %+v: %d; want %d", c.l, w, c.want)
		}
	}
}

// P14.1: what was done, and how it was answered, says nothing.
func TestCheckOps(t *testing.T) {
	l := []history.Call{
		{Thread: 0, Op: op.Op{Kind: -7}, End: 0},
		{Thread: 1, Op: add(-1), End: 1, Answer: op.Answer{Item: pile.Item{Pri: math.NaN()}, N: math.MinInt64}},
		{Thread: 2, Op: op.Op{Kind: op.Next}, End: -1, Answer: op.Answer{Ok: true, N: 5}},
	}
	checked(t, l, api.OK)
}

// P14.1: all lists of up to four calls of three threads, or none, with few Begins and Ends: one call more behind all that may be.
func TestCheckAll(t *testing.T) {
	var calls []history.Call
	for _, thread := range []int{0, 1, 5, 6} {
		for begin := -1; begin <= 3; begin++ {
			for end := -2; end <= 4; end++ {
				calls = append(calls, at(thread, begin, end))
			}
		}
	}
	fine := [][]history.Call{nil}
	for range 4 {
		var longer [][]history.Call
		for _, l := range fine {
			for _, c := range calls {
				m := append(slices.Clone(l), c)
				want := told(m)
				checked(t, m, want)
				if want == api.OK {
					longer = append(longer, m)
				} else { // and whatever stands behind it, that is the first
					checked(t, append(m, calls[len(longer)%len(calls)]), want)
				}
			}
		}
		fine = longer
	}
	if len(fine) == 0 {
		t.Error("no list of four calls may be")
	}
}

// P14.1: long lists that may be, and what comes of them by one change.
func TestCheckLong(t *testing.T) {
	seed := uint64(83)
	for range 300 {
		l := likely(&seed, 60)
		checked(t, l, api.OK)
		for range 30 {
			m := slices.Clone(l)
			c := &m[next(&seed)%uint64(len(m))]
			switch next(&seed) % 4 {
			case 0:
				c.Thread = int(next(&seed)%8) - 1
			case 1:
				c.Begin += int(next(&seed)%9) - 4
			case 2:
				c.End += int(next(&seed)%9) - 4
			default:
				*c = m[next(&seed)%uint64(len(m))]
			}
			checked(t, m, told(m))
		}
	}
	l := likely(&seed, 200000)
	checked(t, l, api.OK)
	l[len(l)-1].Begin = l[len(l)-2].Begin - 1
	checked(t, l, api.ErrOrder)
}

// likely: calls as six threads make them, which do a step each, in any order, and now and then begin.
func likely(seed *uint64, many int) (l []history.Call) {
	var at [6]int // one more than the call that a thread is at
	for steps := 0; len(l) < many; {
		thread := int(next(seed) % 6)
		switch k := at[thread]; {
		case k == 0:
			l = append(l, history.Call{Thread: thread, Begin: steps, End: -1})
			at[thread] = len(l)
		default:
			if next(seed)%3 == 0 {
				l[k-1].End, at[thread] = steps, 0
			}
			steps++
		}
	}
	return l
}

// P14.1: the places of what was done, by rising End; of the same ones in the order of the list, which may be any.
func TestDone(t *testing.T) {
	for _, c := range []struct {
		ends, want []int
	}{
		{nil, nil},
		{[]int{-1}, nil},
		{[]int{-1, -2, math.MinInt}, nil},
		{[]int{0}, []int{0}},
		{[]int{5, 2, -1, 2}, []int{1, 3, 0}},
		{[]int{3, 2, 1, 0}, []int{3, 2, 1, 0}},
		{[]int{0, 1, 2, 3}, []int{0, 1, 2, 3}},
		{[]int{math.MaxInt, 0, -7, 0, math.MaxInt, 1, 0}, []int{1, 3, 6, 5, 0, 4}},
		{[]int{4, 4, 4, 4}, []int{0, 1, 2, 3}},
	} {
		done(t, c.ends, c.want)
	}
}

func done(t *testing.T, ends, want []int) {
	t.Helper()
	var l []history.Call
	for k, end := range ends { // neither the threads nor the Begins say anything
		l = append(l, at(k*5%11-2, 100-k, end))
	}
	before := slices.Clone(l)
	got := history.Done(l)
	if !slices.Equal(got, want) || !slices.EqualFunc(l, before, same) {
		t.Fatalf("Done of %v: %v; want %v", ends, got, want)
	}
	clear(got[:cap(got)])
	if again := history.Done(l); !slices.Equal(again, want) {
		t.Fatalf("Done of %v again: %v", ends, again)
	}
}

// P14.1: any lists, beside what the chapter says: from the least End to the greatest one, all that have it.
func TestDoneAny(t *testing.T) {
	seed := uint64(84)
	for many := range 120 {
		for _, among := range []int{1, 3, 10, 500} {
			var ends, want []int
			for range many {
				ends = append(ends, int(next(&seed)%uint64(among+2))-2)
			}
			for end := range among {
				for k, e := range ends {
					if e == end {
						want = append(want, k)
					}
				}
			}
			done(t, ends, want)
		}
	}
}

// P14.2: what a recorder's calls did, as they were done, is what the engine answered, step by step.
func TestDoneOfRecorder(t *testing.T) {
	seed := uint64(85)
	for _, kind := range kinds() {
		r := history.Of(made(t, kind, 4))
		var events []engine.Event
		for range 3000 {
			if next(&seed)%3 == 0 {
				r.Begin(int(next(&seed)%6), anyOp(&seed, kind))
			} else if v, _ := r.Pick(int(next(&seed))); v.Done {
				events = append(events, v)
			}
		}
		l := r.Calls()
		places := history.Done(l)
		if len(places) != len(events) || len(events) < 100 {
			t.Fatalf("kind %d: %d were done; %d are written down", kind, len(events), len(places))
		}
		for k, v := range events {
			if c := l[places[k]]; !same(c, history.Call{Thread: v.Thread, Op: v.Op, Begin: c.Begin, End: c.End, Answer: v.Answer}) {
				t.Fatalf("kind %d: %+v; want %+v", kind, c, v)
			}
		}
	}
}
