package scan_test

import (
	"iter"
	"math"
	"reflect"
	"slices"
	"testing"

	"carryover/api"
	"carryover/cell"
	"carryover/engine"
	"carryover/history"
	"carryover/kfifo"
	"carryover/op"
	"carryover/pile"
	"carryover/scan"
	"carryover/value"
	"carryover/wire"
)

// next: numbers that look like chance, the same ones each time.
func next(seed *uint64) uint64 {
	*seed = *seed*6364136223846793005 + 1442695040888963407
	x := *seed ^ *seed>>29
	return x * 0x9e3779b97f4a7c15 >> 16
}

func kinds() []int {
	return []int{api.Multi, api.Kfifo, api.Tally, api.Net}
}

// params: all that a kind may have.
func params(kind int) (l []int) {
	for param := 1; param <= api.MaxParam; param++ {
		if op.Legal(kind, param) == api.OK {
			l = append(l, param)
		}
	}
	return l
}

func made(t *testing.T, kind, param int) *scan.Runner {
	t.Helper()
	r, err := scan.New(kind, param)
	if err != api.OK {
		t.Fatalf("New(%d, %d): %d", kind, param, err)
	}
	return r
}

// on: a runner of a structure that has this memory.
func on(t *testing.T, kind, param int, m *cell.Memory) *scan.Runner {
	t.Helper()
	e, err := engine.With(kind, param, m)
	if err != api.OK {
		t.Fatalf("With(%d, %d): %d", kind, param, err)
	}
	return scan.Of(history.Of(e))
}

func add(n int64, draw int) op.Op {
	return op.Op{Kind: op.Add, Item: pile.Item{Val: n}, Draw: [2]int{draw}}
}

func insert(pri float64, n int64, draw int) op.Op {
	return op.Op{Kind: op.Insert, Item: pile.Item{Pri: pri, Val: n}, Draw: [2]int{draw}}
}

func enq(n int64, draw int) op.Op {
	return op.Op{Kind: op.Enq, Item: pile.Item{Val: n}, Draw: [2]int{draw}}
}

func deq(draw int) op.Op {
	return op.Op{Kind: op.Deq, Draw: [2]int{draw}}
}

func token(draw int) op.Op {
	return op.Op{Kind: op.Next, Draw: [2]int{draw}}
}

// exact: the same one, bit by bit.
func exact(x, y pile.Item) bool {
	return math.Float64bits(x.Pri) == math.Float64bits(y.Pri) && x.Val == y.Val
}

func alike(c, d scan.Seen) bool {
	return c.At == d.At && c.Ver == d.Ver && c.N == d.N && slices.EqualFunc(c.L, d.L, exact)
}

// is: has a shot all that another one has, bit by bit?
func is(s, w scan.Shot) bool {
	return s.Kind == w.Kind && s.Param == w.Param && s.Tries == w.Tries && s.Quiet == w.Quiet && slices.EqualFunc(s.Cells, w.Cells, alike)
}

func holds(v, w value.Value) bool {
	return v.Kind == w.Kind && v.N == w.N && slices.EqualFunc(v.Items, w.Items, exact)
}

// sameEvent: are two events one, bit by bit?
func sameEvent(v, w engine.Event) bool {
	return v.Thread == w.Thread && v.Op.Kind == w.Op.Kind && exact(v.Op.Item, w.Op.Item) && v.Op.Draw == w.Op.Draw && v.Done == w.Done &&
		v.Answer.Ok == w.Answer.Ok && exact(v.Answer.Item, w.Answer.Item) && v.Answer.N == w.Answer.N
}

func begins(t *testing.T, r *scan.Runner, thread int, o op.Op) {
	t.Helper()
	if err := r.Begin(thread, o); err != api.OK {
		t.Fatalf("Begin(%d, %+v): %d", thread, o, err)
	}
}

func starts(t *testing.T, r *scan.Runner, tries int) {
	t.Helper()
	if err := r.Start(tries); err != api.OK {
		t.Fatalf("Start(%d): %d", tries, err)
	}
}

// scans: so many steps of the scanner, with what is asked of it ahead of each.
func scans(t *testing.T, r *scan.Runner, steps int) {
	t.Helper()
	for i := range steps {
		if !r.Scanning() {
			t.Fatalf("step %d of %d: no snapshot is under way", i, steps)
		}
		ticks, own := r.Ticks(), r.Steps()
		v, some := r.Pick(len(r.Busy()))
		if !some || !sameEvent(v, engine.Event{Thread: -1}) || r.Ticks() != ticks+1 || r.Steps() != own {
			t.Fatalf("Pick of the scanner: %+v, %v, %d ticks, %d steps", v, some, r.Ticks(), r.Steps())
		}
	}
}

// works: that one does so many steps.
func works(t *testing.T, r *scan.Runner, thread, steps int) {
	t.Helper()
	for range steps {
		ticks, own := r.Ticks(), r.Steps()
		v, some := r.Pick(slices.Index(r.Busy(), thread))
		if !some || v.Thread != thread || r.Ticks() != ticks+1 || r.Steps() != own+1 {
			t.Fatalf("Pick of %d: %+v, %v, %d ticks, %d steps", thread, v, some, r.Ticks(), r.Steps())
		}
	}
}

// alone: an operation from its begin to its end.
func alone(t *testing.T, r *scan.Runner, o op.Op) {
	t.Helper()
	begins(t, r, 0, o)
	for slices.Contains(r.Busy(), 0) {
		works(t, r, 0, 1)
	}
}

// takes: there is a shot; it is there once.
func takes(t *testing.T, r *scan.Runner) scan.Shot {
	t.Helper()
	if r.Scanning() || r.Quiet() {
		t.Fatalf("a snapshot is still under way: quiet %v", r.Quiet())
	}
	s, some := r.Take()
	if !some {
		t.Fatal("Take: there is no snapshot")
	}
	takesNone(t, r)
	return s
}

func takesNone(t *testing.T, r *scan.Runner) {
	t.Helper()
	if s, some := r.Take(); some || !reflect.DeepEqual(s, scan.Shot{}) {
		t.Fatalf("Take: %+v, %v; want none", s, some)
	}
}

func gate(t *testing.T, r *scan.Runner, scanning, quiet, closed bool) {
	t.Helper()
	if r.Scanning() != scanning || r.Quiet() != quiet || r.Closed() != closed {
		t.Fatalf("scanning %v, quiet %v, closed %v; want %v, %v, %v", r.Scanning(), r.Quiet(), r.Closed(), scanning, quiet, closed)
	}
	if closed && r.Begin(5, op.Op{Kind: op.Of(r.Kind())[0]}) != api.ErrState {
		t.Fatal("closed, and an operation began")
	}
}

// P16.1: the example.
func TestExample(t *testing.T) {
	r := made(t, api.Tally, 2)
	starts(t, r, 1)
	for range 4 {
		takesNone(t, r)
		if v, some := r.Pick(0); !some || !sameEvent(v, engine.Event{Thread: -1}) {
			t.Fatalf("Pick: %+v, %v", v, some)
		}
	}
	want := scan.Shot{Kind: api.Tally, Param: 2, Cells: []scan.Seen{{At: 0}, {At: 1}}, Tries: 1}
	if s := takes(t, r); !is(s, want) || r.Ticks() != 4 || r.Steps() != 0 {
		t.Errorf("Take: %+v; want %+v", s, want)
	}
}

// P16.1: New has layer 13's errors, and nil beside them; else a runner at which nothing was done.
func TestNew(t *testing.T) {
	for _, kind := range []int{math.MinInt, -1, 0, 1, 2, 3, 4, 5, math.MaxInt} {
		for _, param := range []int{math.MinInt, -1, 0, 1, 2, 3, 4, 6, 8, 15, 16, 17, 32, math.MaxInt} {
			r, err := scan.New(kind, param)
			if _, want := engine.New(kind, param); err != want || (r == nil) != (want != api.OK) {
				t.Errorf("New(%d, %d): %v, %d; want %d", kind, param, r, err, want)
			}
			if r == nil {
				continue
			}
			gate(t, r, false, false, false)
			takesNone(t, r)
			if r.Kind() != kind || r.Param() != param || r.Ticks() != 0 || r.Steps() != 0 || r.Memory().Len() != 0 || len(r.Busy()) != 0 || len(r.Calls()) != 0 {
				t.Errorf("New(%d, %d): %d, %d, %d ticks", kind, param, r.Kind(), r.Param(), r.Ticks())
			}
			if v, some := r.Pick(0); some || !sameEvent(v, engine.Event{}) || r.Ticks() != 0 {
				t.Errorf("Pick: %+v, %v", v, some)
			}
		}
	}
}

// P16.1: a runner has the recorder that it was given; steps that were made ahead of it aren't its ticks.
func TestOf(t *testing.T) {
	e, _ := engine.New(api.Tally, 2)
	h := history.Of(e)
	for thread := range 2 {
		h.Begin(thread, add(4, thread))
	}
	for range 3 {
		h.Pick(0)
	}
	h.Close()
	r := scan.Of(h)
	if r.Recorder != h || r.Engine != e || r.Ticks() != 0 || r.Steps() != 3 || !slices.Equal(r.Busy(), []int{1}) {
		t.Errorf("Of: %d ticks, %d steps, busy %d", r.Ticks(), r.Steps(), r.Busy())
	}
	gate(t, r, false, false, true)
	takesNone(t, r)
	works(t, r, 1, 1)
	starts(t, r, 8)
	scans(t, r, 4)
	s := takes(t, r)
	if r.Ticks() != 5 || r.Steps() != 4 || len(h.Calls()) != 2 || h.Calls()[1].End != 3 || s.Value().N != 8 || s.Tries != 1 || s.Quiet {
		t.Errorf("Of: %d ticks, %d steps, %+v", r.Ticks(), r.Steps(), s)
	}
	gate(t, r, false, false, true)
}

// P16.1: Start's errors, in their order; beside one nothing has changed.
func TestStart(t *testing.T) {
	wrong := []int{math.MinInt, -1, 0, 9, 10, math.MaxInt}
	refuses := func(r *scan.Runner, right api.Errno) {
		t.Helper()
		for _, tries := range wrong {
			if err := r.Start(tries); err != api.ErrArg {
				t.Errorf("Start(%d): %d", tries, err)
			}
		}
		for tries := 1; tries <= api.MaxTries && right != api.OK; tries++ {
			if err := r.Start(tries); err != right {
				t.Errorf("Start(%d): %d; want %d", tries, err, right)
			}
		}
	}
	for tries := 1; tries <= api.MaxTries; tries++ {
		r := made(t, api.Multi, 2)
		refuses(r, api.OK)
		gate(t, r, false, false, false)
		starts(t, r, tries)
		for range 4 {
			refuses(r, api.ErrBusy)
			gate(t, r, true, false, false)
			scans(t, r, 1)
		}
		refuses(r, api.ErrBusy)
		gate(t, r, false, false, false)
		if s := takes(t, r); s.Tries != 1 || s.Quiet || len(s.Cells) != 2 {
			t.Errorf("Take: %+v", s)
		}
		refuses(r, api.OK)
		starts(t, r, tries)
		scans(t, r, 4)
		takes(t, r)
	}
}

// P16.1: while Quiet there is no other snapshot either.
func TestStartWhileQuiet(t *testing.T) {
	r := made(t, api.Tally, 1)
	begins(t, r, 0, add(1, 0))
	works(t, r, 0, 1)
	starts(t, r, 1)
	scans(t, r, 1)
	works(t, r, 0, 1)
	scans(t, r, 1)
	gate(t, r, true, true, true)
	if r.Start(1) != api.ErrBusy || r.Start(0) != api.ErrArg {
		t.Error("Start while Quiet")
	}
	takesNone(t, r)
	gate(t, r, true, true, true)
	scans(t, r, 1)
	if s := takes(t, r); !s.Quiet || s.Value().N != 1 {
		t.Errorf("Take: %+v", s)
	}
}

// P16.1: among the busy threads, rising, and the scanner behind them, the one that pick says.
func TestPick(t *testing.T) {
	picks := []int{0, 1, 2, 3, 4, 5, -1, -2, -3, -4, -5, 1000001, math.MinInt, math.MaxInt}
	for _, busy := range [][]int{nil, {3}, {0, 5}, {1, 2, 4}, {0, 1, 2, 3, 4, 5}} {
		for _, pick := range picks {
			r := made(t, api.Tally, 16)
			for _, thread := range busy {
				begins(t, r, thread, add(7, thread))
			}
			starts(t, r, 1)
			v, some := r.Pick(pick)
			at := op.Into(pick, len(busy)+1)
			want := engine.Event{Thread: -1}
			if at < len(busy) {
				want = engine.Event{Thread: busy[at], Op: add(7, busy[at])}
			}
			if !some || !sameEvent(v, want) || r.Ticks() != 1 || (r.Steps() == 1) != (at < len(busy)) {
				t.Errorf("Pick(%d) of %d: %+v, %v; want %+v", pick, busy, v, some, want)
			}
		}
	}
}

// P16.1: a thread's step while a snapshot is under way is the recorder's: its answer, and what is written down.
func TestPickWritesDown(t *testing.T) {
	r := made(t, api.Tally, 2)
	starts(t, r, 3)
	begins(t, r, 2, add(7, 1))
	scans(t, r, 1)
	works(t, r, 2, 1)
	scans(t, r, 1)
	v, some := r.Pick(0)
	want := engine.Event{Thread: 2, Op: add(7, 1), Done: true, Answer: op.Answer{Ok: true}}
	if !some || !sameEvent(v, want) {
		t.Errorf("Pick: %+v, %v; want %+v", v, some, want)
	}
	l := r.Calls()
	if len(l) != 1 || l[0].Thread != 2 || l[0].Begin != 0 || l[0].End != 1 || !l[0].Answer.Ok {
		t.Errorf("Calls: %+v", l)
	}
}

// filled: a queue's memory with these ends, whose segments ahead of the Head are Taken, those up to the Tail Full.
func filled(k int, head, tail int64) *cell.Memory {
	m := cell.New()
	m.Force(kfifo.Head, cell.Value{N: head})
	m.Force(kfifo.Tail, cell.Value{N: tail})
	q, _ := kfifo.New(k)
	for seg := range tail + 1 {
		for j := range k {
			v := cell.Value{N: kfifo.Full, L: []pile.Item{{Val: seg*100 + int64(j)}}}
			if seg < head {
				v = cell.Value{N: kfifo.Taken}
			}
			m.Force(q.Slot(seg, j), v)
		}
	}
	return m
}

// cellsOf: the numbers of a snapshot's cells, as the chapter tells them, of what a memory holds.
func cellsOf(kind, param int, m *cell.Memory) (l []int) {
	switch kind {
	case api.Kfifo:
		l = []int{0, 1}
		for seg := m.Read(0).N; seg <= m.Read(1).N; seg++ {
			for j := range param {
				if at := 2 + int(seg)*param + j; at < 1000 {
					l = append(l, at)
				}
			}
		}
		return l
	case api.Net:
		plan, _ := wire.Make(param)
		for i := range len(plan.Gates) + len(plan.Outs) {
			l = append(l, i)
		}
		return l
	}
	for i := range param {
		l = append(l, i)
	}
	return l
}

// still: a snapshot that nobody disturbs reads these cells, all of them twice, and has them as they are.
func still(t *testing.T, r *scan.Runner, places []int) scan.Shot {
	t.Helper()
	starts(t, r, 2)
	scans(t, r, 2*len(places))
	want := scan.Shot{Kind: r.Kind(), Param: r.Param(), Tries: 1}
	for _, at := range places {
		want.Cells = append(want.Cells, scan.Seen{At: at, Cell: r.Memory().Read(at)})
	}
	s := takes(t, r)
	if !is(s, want) || !holds(s.Value(), r.Value()) {
		t.Fatalf("Take: %+v,\n%+v; want %+v,\n%+v", s, s.Value(), want, r.Value())
	}
	return s
}

// P16.1: which cells a snapshot reads, of each kind and parameter, with nothing there and behind some operations.
func TestCells(t *testing.T) {
	for _, kind := range kinds() {
		for _, param := range params(kind) {
			r := made(t, kind, param)
			still(t, r, cellsOf(kind, param, r.Memory()))
			seed := uint64(kind*100 + param)
			for range 60 {
				l := op.Of(kind)
				alone(t, r, anyOp(&seed, l[next(&seed)%uint64(len(l))]))
			}
			still(t, r, cellsOf(kind, param, r.Memory()))
		}
	}
	if l := cellsOf(api.Net, 8, nil); len(l) != 24+8 {
		t.Fatalf("a Net of width 8: %d", l)
	}
}

// P16.1: of a queue the slots from the Head's segment on up to the Tail's, below 1000.
func TestCellsOfQueues(t *testing.T) {
	for _, c := range []struct {
		k          int
		head, tail int64
		cells      int
	}{
		{1, 0, 0, 3}, {1, 3, 3, 3}, {1, 2, 5, 6}, {1, 0, 997, 1000}, {1, 997, 997, 3}, {1, 997, 998, 3}, {1, 998, 998, 2},
		{2, 0, 1, 6}, {2, 1, 1, 4}, {2, 498, 498, 4}, {2, 498, 499, 4}, {2, 499, 499, 2},
		{3, 331, 332, 2 + 3 + 2}, {3, 332, 332, 2 + 2}, {16, 61, 61, 18}, {16, 61, 62, 2 + 16 + 6}, {16, 62, 62, 2 + 6}, {16, 0, 62, 1000},
	} {
		m := filled(c.k, c.head, c.tail)
		l := cellsOf(api.Kfifo, c.k, m)
		if len(l) != c.cells {
			t.Fatalf("segments of %d, %d to %d: %d cells; want %d", c.k, c.head, c.tail, len(l), c.cells)
		}
		still(t, on(t, api.Kfifo, c.k, m), l)
	}
}

// P16.1: which segments there are is said by what was read as the Head and the Tail, not by what they are at first, or then.
func TestQueueGoesOn(t *testing.T) {
	r := made(t, api.Kfifo, 1)
	alone(t, r, enq(1, 0))
	starts(t, r, 3)
	scans(t, r, 1)
	alone(t, r, enq(2, 0)) // the Tail goes on behind the read of the Head, ahead of its own
	scans(t, r, 1+2+4)
	s := takes(t, r)
	if !is(s, scan.Shot{Kind: api.Kfifo, Param: 1, Tries: 1, Cells: []scan.Seen{
		{At: 0},
		{At: 1, Cell: cell.Cell{Ver: 2, Value: cell.Value{N: 1}}},
		{At: 2, Cell: cell.Cell{Ver: 1, Value: cell.Value{N: 1, L: []pile.Item{{Val: 1}}}}},
		{At: 3, Cell: cell.Cell{Ver: 3, Value: cell.Value{N: 1, L: []pile.Item{{Val: 2}}}}},
	}}) {
		t.Fatalf("Take: %+v", s)
	}
	starts(t, r, 3)
	scans(t, r, 2)
	alone(t, r, enq(3, 0)) // behind the read of the Tail: the first try has two slots still, and fails at the Tail
	scans(t, r, 2+1)
	gate(t, r, true, false, false)
	scans(t, r, 1)
	gate(t, r, true, false, false)
	scans(t, r, 1)
	alone(t, r, deq(0))
	alone(t, r, deq(0)) // the Head goes on behind its read: the second try has all slots, and fails at the Head
	scans(t, r, 1+3+1)
	gate(t, r, true, false, false)
	scans(t, r, 2+2+4)
	s = takes(t, r)
	if s.Tries != 3 || s.Quiet || len(s.Cells) != 4 || s.Cells[2].At != 3 || s.Cells[3].At != 4 || len(s.Value().Items) != 1 || s.Value().Items[0].Val != 3 {
		t.Fatalf("Take: %+v", s)
	}
}

// P16.1: a write to a cell between both reads of it ends the try by the step that sees it, whichever cell it is, even if the value is the same; a write ahead of the first read, or behind the second one, doesn't.
func TestWriteBetween(t *testing.T) {
	const shards = 4
	for written := range shards {
		for ahead := range 2 * shards {
			r := made(t, api.Tally, shards)
			starts(t, r, 2)
			scans(t, r, ahead)
			alone(t, r, add(0, written))
			left, tries := 2*shards-ahead, 1
			if written < ahead && ahead <= shards+written {
				left, tries = shards+written+1-ahead+2*shards, 2
			}
			scans(t, r, left-1)
			gate(t, r, true, false, false)
			scans(t, r, 1)
			s := takes(t, r)
			seen := ahead <= shards+written
			if s.Tries != tries || s.Quiet || (s.Cells[written].Ver == 1) != seen || len(s.Cells) != shards {
				t.Errorf("shard %d behind %d steps: %+v", written, ahead, s)
			}
		}
	}
}

// P16.1: of each kind, whichever cell is written between: the one that was read first, a later one, the last one.
func TestEachKindBeginsAnew(t *testing.T) {
	for _, c := range []struct {
		kind, param int
		o           op.Op
		fails       int // the step that sees what o wrote, with all cells read once
		cells       int
	}{
		{api.Multi, 3, insert(1, 2, 0), 1, 3}, {api.Multi, 3, insert(1, 2, 2), 3, 3}, {api.Tally, 1, add(2, 0), 1, 1}, {api.Tally, 16, add(2, 15), 16, 16},
		{api.Kfifo, 2, enq(2, 0), 3, 4}, {api.Kfifo, 2, enq(2, 1), 4, 4}, {api.Net, 1, token(0), 1, 1}, {api.Net, 2, token(1), 1, 3}, {api.Net, 4, token(0), 1, 10},
	} {
		r := made(t, c.kind, c.param)
		starts(t, r, 8)
		for try := 1; try < 4; try++ {
			if try > 1 && c.kind == api.Kfifo {
				break
			}
			scans(t, r, c.cells)
			alone(t, r, c.o)
			scans(t, r, c.fails)
			gate(t, r, true, false, false)
		}
		scans(t, r, 2*c.cells)
		s := takes(t, r)
		if want := len(r.Calls()) + 1; s.Tries != want || s.Quiet || !holds(s.Value(), r.Value()) {
			t.Errorf("a %d of %d: %+v; want try %d", c.kind, c.param, s, want)
		}
	}
}

// spoilTries: each of so many tries fails, with the thread's Adds done between; the last one by the last step of all.
func spoilTries(t *testing.T, r *scan.Runner, tries int) {
	t.Helper()
	for range tries {
		scans(t, r, r.Param())
		alone(t, r, add(1, r.Param()-1))
		quiet := r.Quiet()
		scans(t, r, r.Param()-1)
		if quiet || r.Quiet() {
			t.Fatal("the gate was closed ahead of the last try's last step")
		}
		scans(t, r, 1)
	}
}

// P16.1: so many tries as were asked for; the one in which it is taken is told; behind the last one the gate is closed, and the cells are read once.
func TestTries(t *testing.T) {
	for tries := 1; tries <= api.MaxTries; tries++ {
		for failed := range tries + 1 {
			r := made(t, api.Tally, 3)
			starts(t, r, tries)
			spoilTries(t, r, failed)
			quiet, steps := failed == tries, 6
			if quiet {
				steps = 3
			}
			gate(t, r, true, quiet, quiet)
			scans(t, r, steps-1)
			takesNone(t, r)
			gate(t, r, true, quiet, quiet)
			scans(t, r, 1)
			gate(t, r, false, false, false)
			if s := takes(t, r); s.Tries != min(failed+1, tries) || s.Quiet != quiet || s.Value().N != int64(failed) {
				t.Errorf("%d of %d failed: %+v", failed, tries, s)
			}
		}
	}
}

// P16.1: with the gate closed the scanner's steps change nothing as long as anyone is busy, whoever it is; others go on to their ends.
func TestWaits(t *testing.T) {
	for threads := range 4 {
		r := made(t, api.Tally, 2)
		starts(t, r, 1)
		scans(t, r, 2)
		alone(t, r, add(5, 0))
		for thread := range threads {
			begins(t, r, thread+1, add(1, thread))
		}
		scans(t, r, 1)
		for _, thread := range slices.Backward(r.Busy()) {
			for range 2 {
				gate(t, r, true, true, true)
				scans(t, r, 3)
				takesNone(t, r)
				works(t, r, thread, 1)
			}
		}
		gate(t, r, true, true, true)
		scans(t, r, 2)
		want := scan.Shot{Kind: api.Tally, Param: 2, Tries: 1, Quiet: true, Cells: []scan.Seen{{At: 0, Cell: r.Memory().Read(0)}, {At: 1, Cell: r.Memory().Read(1)}}}
		if s := takes(t, r); !is(s, want) || s.Value().N != int64(5+threads) {
			t.Errorf("%d threads: %+v; want %+v", threads, s, want)
		}
		gate(t, r, false, false, false)
	}
}

// P16.1: behind a Quiet snapshot the gate is as it was, or as was asked for last; until then it is closed, whatever is asked for.
func TestGate(t *testing.T) {
	for _, c := range []struct {
		ahead, first, while, later string // o: Open, c: Close
		closed                     bool
	}{
		{"", "", "", "", false}, {"c", "", "", "", true}, {"co", "", "", "", false}, {"", "c", "", "", true}, {"c", "o", "", "", false},
		{"", "", "c", "", true}, {"", "", "o", "", false}, {"c", "", "o", "", false}, {"c", "", "c", "", true}, {"c", "o", "c", "", true},
		{"", "", "co", "", false}, {"c", "", "oc", "", true}, {"", "", "c", "o", false}, {"c", "", "o", "c", true}, {"", "c", "o", "", false},
	} {
		r := made(t, api.Tally, 1)
		ask := func(l string) {
			for _, x := range l {
				if x == 'c' {
					r.Close()
				} else {
					r.Open()
				}
			}
		}
		begins(t, r, 0, add(3, 0))
		works(t, r, 0, 1)
		begins(t, r, 1, op.Op{Kind: op.Sum})
		ask(c.ahead)
		starts(t, r, 1)
		scans(t, r, 1)
		ask(c.first)
		if last := c.ahead + c.first; last != "" {
			gate(t, r, true, false, last[len(last)-1] == 'c')
		}
		works(t, r, 0, 1)
		scans(t, r, 1)
		gate(t, r, true, true, true)
		ask(c.while)
		gate(t, r, true, true, true)
		works(t, r, 1, 1)
		ask(c.later)
		gate(t, r, true, true, true)
		scans(t, r, 1)
		gate(t, r, false, false, c.closed)
		if s := takes(t, r); !s.Quiet || s.Value().N != 3 {
			t.Errorf("%+v: %+v", c, s)
		}
		gate(t, r, false, false, c.closed)
		r.Open()
		gate(t, r, false, false, false)
		r.Close()
		gate(t, r, false, false, true)
	}
}

// P16.1: what was asked of the gate while one snapshot was Quiet isn't what a later one goes by.
func TestGateAnew(t *testing.T) {
	r := made(t, api.Tally, 1)
	for i, closed := range []bool{true, false, true} {
		r.Open()
		starts(t, r, 1)
		scans(t, r, 1)
		alone(t, r, add(1, 0))
		scans(t, r, 1)
		if closed {
			r.Close()
		}
		scans(t, r, 1)
		gate(t, r, false, false, closed)
		if s := takes(t, r); s.Value().N != int64(i+1) {
			t.Errorf("Take: %+v", s)
		}
	}
}

// P16.1: a shot's memory has its cells, written by rising version; those without one never were.
func TestShotMemory(t *testing.T) {
	c := func(at int, ver uint64, n int64, l ...pile.Item) scan.Seen {
		return scan.Seen{At: at, Cell: cell.Cell{Ver: ver, Value: cell.Value{N: n, L: l}}}
	}
	s := scan.Shot{Kind: api.Kfifo, Param: 4, Cells: []scan.Seen{c(0, 0, 9), c(5, 70, 1, pile.Item{Val: 1}), c(7, 3, 2), c(6, math.MaxUint64, 1, pile.Item{Val: 3}), c(8, 0, 1, pile.Item{Val: 4}), c(2, 71, 1, pile.Item{Pri: math.Copysign(0, -1), Val: 2})}}
	m := s.Memory()
	if m.Len() != 8 || m.Clock() != 4 {
		t.Fatalf("Memory: %d cells, %d writes", m.Len(), m.Clock())
	}
	want := []cell.Cell{5: {Ver: 2, Value: s.Cells[1].Value}, 7: {Ver: 1, Value: s.Cells[2].Value}, 6: {Ver: 4, Value: s.Cells[3].Value}, 2: {Ver: 3, Value: s.Cells[5].Value}}
	for i, w := range want {
		if got := m.Read(i); got.Ver != w.Ver || got.N != w.N || !slices.EqualFunc(got.L, w.L, exact) {
			t.Errorf("cell %d: %+v; want %+v", i, got, w)
		}
	}
	if v := s.Value(); !holds(v, value.Value{Kind: api.Kfifo, Items: []pile.Item{{Val: 1}, {Pri: math.Copysign(0, -1), Val: 2}, {Val: 3}}}) {
		t.Errorf("Value: %+v", v)
	}
}

// P16.1: what a memory of a shot is doesn't change the shot, and the other way round; it is a new one each time.
func TestShotIsLeftAlone(t *testing.T) {
	cells := func() []scan.Seen {
		return []scan.Seen{{At: 1, Cell: cell.Cell{Ver: 9, Value: cell.Value{N: 2, L: []pile.Item{{Pri: 2}, {Pri: 3}}}}}, {At: 0, Cell: cell.Cell{Ver: 4, Value: cell.Value{L: []pile.Item{{Pri: 1}}}}}, {At: 2}}
	}
	s := scan.Shot{Kind: api.Multi, Param: 3, Cells: cells(), Tries: 2}
	m, v := s.Memory(), s.Value()
	m.Force(0, cell.Value{N: 5})
	spoil(v.Items)
	if !is(s, scan.Shot{Kind: api.Multi, Param: 3, Cells: cells(), Tries: 2}) {
		t.Errorf("changed: %+v", s)
	}
	m = s.Memory()
	spoil(s.Cells[0].L)
	if l := m.Read(1).L; !slices.EqualFunc(l, []pile.Item{{Pri: 2}, {Pri: 3}}, exact) {
		t.Errorf("Memory: %+v", l)
	}
}

// P16.1: any shot, made by hand, says something, and a false one nothing.
func TestAnyShot(t *testing.T) {
	if m := (scan.Shot{}).Memory(); m.Len() != 0 || m.Clock() != 0 {
		t.Errorf("Memory: %d, %d", m.Len(), m.Clock())
	}
	l := []scan.Seen{{At: -1, Cell: cell.Cell{Ver: 1}}, {At: math.MinInt, Cell: cell.Cell{Ver: 2}}, {At: 1000, Cell: cell.Cell{Ver: 3}}, {At: math.MaxInt, Cell: cell.Cell{Ver: 4}}, {At: 999, Cell: cell.Cell{Ver: 5, Value: cell.Value{N: 1}}}, {At: 0, Cell: cell.Cell{Ver: 6, Value: cell.Value{N: 7}}}}
	for _, kind := range []int{math.MinInt, -1, 0, 1, 2, 3, 4, 5, math.MaxInt} {
		for _, param := range []int{math.MinInt, -1, 0, 1, 2, 3, 16, 17, math.MaxInt} {
			s := scan.Shot{Kind: kind, Param: param, Cells: l}
			if m := s.Memory(); m.Len() != 1000 || m.Clock() != 2 || m.Read(0).Ver != 2 || m.Read(999).Ver != 1 {
				t.Fatalf("Memory: %d, %d", m.Len(), m.Clock())
			}
			want, _ := value.Of(kind, param, s.Memory())
			if v := s.Value(); !holds(v, want) || op.Legal(kind, param) != api.OK && !reflect.DeepEqual(v, value.Value{}) {
				t.Errorf("Value of a %d of %d: %+v", kind, param, v)
			}
		}
	}
	// Of two writes of one cell the later one holds; of one number, the later one in the list.
	s := scan.Shot{Kind: api.Tally, Param: 2, Cells: []scan.Seen{{Cell: cell.Cell{Ver: 8, Value: cell.Value{N: 8}}}, {Cell: cell.Cell{Ver: 2, Value: cell.Value{N: 2}}}, {At: 1, Cell: cell.Cell{Ver: 3, Value: cell.Value{N: 30}}}, {At: 1, Cell: cell.Cell{Ver: 3, Value: cell.Value{N: 40}}}}}
	if v := s.Value(); v.N != 48 {
		t.Errorf("Value: %+v", v)
	}
}

// spoil writes on all that a list has, and on what is behind it.
func spoil(l []pile.Item) {
	l = l[:cap(l)]
	for i := range l {
		l[i] = pile.Item{Pri: -7, Val: -7}
	}
}

// P16.1: a shot that was taken stays as it is, whatever threads and later snapshots do; what is written on it changes neither.
func TestTakenIsItsOwn(t *testing.T) {
	r := made(t, api.Multi, 2)
	alone(t, r, insert(2, 1, 0))
	alone(t, r, insert(1, 2, 0))
	starts(t, r, 1)
	scans(t, r, 4)
	alone(t, r, insert(0, 3, 0)) // between the last step and Take
	first := takes(t, r)
	want := scan.Shot{Kind: api.Multi, Param: 2, Tries: 1, Cells: []scan.Seen{{At: 0, Cell: cell.Cell{Ver: 2, Value: cell.Value{L: []pile.Item{{Pri: 1, Val: 2}, {Pri: 2, Val: 1}}}}}, {At: 1}}}
	if !is(first, want) {
		t.Fatalf("Take: %+v; want %+v", first, want)
	}
	starts(t, r, 1)
	scans(t, r, 4)
	second := takes(t, r)
	if !is(first, want) || len(second.Cells[0].L) != 3 {
		t.Fatalf("the first one is %+v, the second one %+v", first, second)
	}
	v := r.Value()
	for _, c := range second.Cells {
		spoil(c.L)
	}
	clear(second.Cells[:cap(second.Cells)])
	if !is(first, want) || !holds(r.Value(), v) {
		t.Errorf("what was written on a shot is in %+v, %+v", first, r.Value())
	}
}

// mark: where the told scanner is, and by which ticks it read.
type mark struct {
	quiet       bool
	lastOfFirst int // the tick of the last read of a try's first time
	firstAgain  int // the tick of the first one of its second time
	shot        *scan.Shot
}

// told: a snapshot, as the chapter's words say it one behind the other; between two turns is one step of the scanner.
func told(r *scan.Runner, tries int, k *mark) iter.Seq[int] {
	return func(turn func(int) bool) {
		m := r.Memory()
		shot := scan.Shot{Kind: r.Kind(), Param: r.Param()}
		read := func(at int) cell.Cell {
			turn(at)
			return m.Read(at)
		}
		all := func() (l []scan.Seen) {
			see := func(at int) { l = append(l, scan.Seen{At: at, Cell: read(at)}) }
			if r.Kind() != api.Kfifo {
				for _, at := range cellsOf(r.Kind(), r.Param(), m) {
					see(at)
				}
				return l
			}
			see(0)
			see(1)
			ends := cell.New()
			ends.Force(0, l[0].Value)
			ends.Force(1, l[1].Value)
			for _, at := range cellsOf(api.Kfifo, r.Param(), ends)[2:] {
				see(at)
			}
			return l
		}
	Tries:
		for shot.Tries = 1; shot.Tries <= tries; shot.Tries++ {
			shot.Cells = all()
			k.lastOfFirst, k.firstAgain = r.Ticks(), 0
			for _, c := range shot.Cells {
				now := read(c.At).Ver
				if k.firstAgain == 0 {
					k.firstAgain = r.Ticks()
				}
				if now != c.Ver {
					continue Tries
				}
			}
			k.shot = &shot
			return
		}
		shot.Cells, shot.Tries, shot.Quiet, k.quiet = nil, tries, true, true
		for turn(-1); len(r.Busy()) > 0; turn(-1) {
		}
		for i, at := range cellsOf(r.Kind(), r.Param(), m) {
			if i > 0 {
				turn(at)
			}
			shot.Cells = append(shot.Cells, scan.Seen{At: at, Cell: m.Read(at)})
		}
		k.shot, k.quiet = &shot, false
	}
}

// watch is a runner whose snapshot is held, step by step, against the told one, and against what the engine held at each tick.
type watch struct {
	*scan.Runner
	turn   func() (int, bool)
	now    mark
	behind bool // what was asked of the gate last
	began  int  // the tick of the Start
	held   map[int]value.Value
	cells  map[int]*cell.Memory
	shots  int
}

func watched(r *scan.Runner) *watch {
	w := &watch{Runner: r, behind: r.Closed(), held: map[int]value.Value{}, cells: map[int]*cell.Memory{}}
	w.keep()
	return w
}

// keep: what there is behind so many ticks.
func (w *watch) keep() {
	w.held[w.Ticks()], w.cells[w.Ticks()] = w.Value(), w.Memory().Clone()
}

func (w *watch) start(t *testing.T, tries int) {
	t.Helper()
	starts(t, w.Runner, tries)
	w.now, w.began = mark{}, w.Ticks()
	w.turn, _ = iter.Pull(told(w.Runner, tries, &w.now))
	w.turn()
}

// ask: of the gate.
func (w *watch) ask(closed bool) {
	w.behind = closed
	if closed {
		w.Close()
	} else {
		w.Open()
	}
}

// step: one Pick, and all that is to be seen behind it; was a shot taken, it is checked, and answered.
func (w *watch) step(t *testing.T, pick int) (scan.Shot, bool) {
	t.Helper()
	scanning := w.Scanning()
	v, some := w.Pick(pick)
	w.keep()
	if scanning && some && v.Thread == -1 {
		w.turn()
	}
	if taken := w.now.shot != nil; scanning && (w.Scanning() == taken || w.Quiet() != w.now.quiet) {
		t.Fatalf("tick %d: scanning %v, quiet %v; want %v, %v", w.Ticks(), w.Scanning(), w.Quiet(), !taken, w.now.quiet)
	}
	if w.Closed() != (w.behind || w.now.quiet) {
		t.Fatalf("tick %d: closed %v; asked for %v, quiet %v", w.Ticks(), w.Closed(), w.behind, w.now.quiet)
	}
	if !scanning || w.Scanning() {
		return scan.Shot{}, false
	}
	s := takes(t, w.Runner)
	w.check(t, s)
	w.shots++
	w.now = mark{}
	return s, true
}

// check: P16.2.
func (w *watch) check(t *testing.T, s scan.Shot) {
	t.Helper()
	if !is(s, *w.now.shot) {
		t.Fatalf("Take: %+v; want %+v", s, *w.now.shot)
	}
	from, to := w.began, w.Ticks()
	if !s.Quiet {
		from, to = w.now.lastOfFirst, w.now.firstAgain-1
	}
	v, found := s.Value(), false
	for tick := from; tick <= to && !found; tick++ {
		found = holds(v, w.held[tick]) && !slices.ContainsFunc(s.Cells, func(c scan.Seen) bool {
			return !alike(c, scan.Seen{At: c.At, Cell: w.cells[tick].Read(c.At)})
		})
	}
	if !found {
		t.Fatalf("%+v was never held from tick %d to %d: %+v", v, from, to, w.held)
	}
}

// anyOp: of that kind; few items, draws of all sorts.
func anyOp(seed *uint64, kind int) op.Op {
	draws := []int{0, 1, 2, -1, 5, math.MinInt, math.MaxInt}
	o := op.Op{Kind: kind, Item: pile.Item{Pri: []float64{0, 1, -2, math.NaN(), math.Copysign(0, -1)}[next(seed)%5], Val: int64(next(seed) % 4)}}
	o.Draw = [2]int{draws[next(seed)%7], draws[next(seed)%7]}
	return o
}

// P16.2, P16.1: in all ways in which a few threads and the scanner go past one another, the scanner is the told one, and what is taken was held at one time.
func TestAllWays(t *testing.T) {
	for _, c := range []struct {
		kind, param, tries int
		ahead, l           []op.Op
	}{
		{api.Tally, 2, 2, nil, []op.Op{add(1, 0), add(2, 1)}},
		{api.Tally, 1, 1, nil, []op.Op{add(1, 0), add(2, 0)}},
		{api.Tally, 3, 1, nil, []op.Op{add(1, 2), {Kind: op.Sum}}},
		{api.Multi, 2, 1, []op.Op{insert(1, 1, 0)}, []op.Op{insert(0, 2, 1), {Kind: op.Delete, Draw: [2]int{0, 1}}}},
		{api.Kfifo, 1, 1, nil, []op.Op{enq(1, 0), deq(0)}},
		{api.Kfifo, 1, 1, []op.Op{enq(1, 0)}, []op.Op{enq(2, 0)}},
		{api.Kfifo, 2, 1, []op.Op{enq(1, 0), enq(2, 0), deq(0)}, []op.Op{deq(1)}},
		{api.Kfifo, 1, 1, []op.Op{enq(1, 0), enq(2, 0), deq(0)}, []op.Op{deq(0)}},
		{api.Net, 2, 1, nil, []op.Op{token(0), token(1)}},
		{api.Net, 1, 3, nil, []op.Op{token(0), token(1), token(0)}},
	} {
		ways, quiet, tried := 0, 0, 0
		for picks := []int{}; picks != nil; ways++ {
			w := watched(made(t, c.kind, c.param))
			for _, o := range c.ahead {
				alone(t, w.Runner, o)
			}
			w.keep()
			var s scan.Shot
			s, picks = oneWay(t, w, c.tries, c.l, picks)
			if s.Quiet {
				quiet++
			} else if s.Tries > 1 {
				tried++
			}
		}
		if ways < 10 || quiet == 0 || c.tries > 1 && tried == 0 {
			t.Errorf("a %d of %d: %d ways, %d quiet, %d tried again", c.kind, c.param, ways, quiet, tried)
		}
	}
}

// oneWay goes by picks, and behind them by the first one; it answers what was taken, and the picks of the next way, nil behind the last one. Steps by which a scanner only waits are left out, as there is no end to them.
func oneWay(t *testing.T, w *watch, tries int, l []op.Op, picks []int) (taken scan.Shot, next []int) {
	t.Helper()
	for thread, o := range l {
		begins(t, w.Runner, thread, o)
	}
	w.start(t, tries)
	var among []int
	for step := 0; w.Scanning(); step++ {
		n := len(w.Busy())
		if !w.Quiet() || n == 0 {
			n++
		}
		if step == len(picks) {
			picks = append(picks, 0)
		}
		among = append(among, n)
		if s, some := w.step(t, picks[step]); some {
			taken = s
		}
	}
	for step := len(among) - 1; step >= 0; step-- {
		if picks[step]+1 < among[step] {
			next = slices.Clone(picks[:step+1])
			next[step]++
			return taken, next
		}
	}
	return taken, nil
}

// anyRun: threads that begin what they may, a scanner that is asked for snapshots, a gate that is opened and closed; who is next is any one.
func anyRun(t *testing.T, w *watch, seed *uint64, steps int) (quiet, again int) {
	t.Helper()
	l := op.Of(w.Kind())
	for range steps {
		switch next(seed) % 8 {
		case 0, 1, 2:
			w.Begin(int(next(seed)%api.MaxThreads), anyOp(seed, l[next(seed)%uint64(len(l))]))
		case 3:
			if !w.Scanning() {
				w.start(t, int(next(seed)%3)+1)
			}
		case 4:
			if next(seed)%4 == 0 {
				w.ask(!w.behind || next(seed)%2 == 0)
			} else {
				w.ask(false)
			}
		}
		pick := int(next(seed) % 16)
		if next(seed)%2 == 0 {
			pick = len(w.Busy()) // the scanner, or thread 0
		}
		if s, some := w.step(t, pick); some && s.Quiet {
			quiet++
		} else if some && s.Tries > 1 {
			again++
		}
	}
	for w.Scanning() {
		w.step(t, int(next(seed)%7))
	}
	return quiet, again
}

// P16.2, P16.1: any runs, of all kinds and parameters.
func TestAnyRuns(t *testing.T) {
	seed := uint64(16)
	for _, kind := range kinds() {
		shots, quiet, again := 0, 0, 0
		for _, param := range params(kind) {
			steps := 600
			if kind == api.Net && param == 16 {
				steps = 1500
			}
			for range 3 {
				w := watched(made(t, kind, param))
				q, a := anyRun(t, w, &seed, steps)
				shots, quiet, again = shots+w.shots, quiet+q, again+a
			}
		}
		if shots < 20 || quiet < 5 || again < 5 || shots-quiet-again < 5 {
			t.Errorf("kind %d: %d shots, %d quiet, %d tried again", kind, shots, quiet, again)
		}
	}
}

// P16.2: a queue near its end, where segments are cut off at the last cell.
func TestAnyRunsAtTheEnd(t *testing.T) {
	seed := uint64(1000)
	for _, k := range []int{1, 2, 3, 7, 16} {
		last := int64((api.MaxCells-kfifo.Base)/k - 1)
		for from := last - 1; from <= last; from++ {
			w := watched(on(t, api.Kfifo, k, filled(k, from, from)))
			anyRun(t, w, &seed, 900)
			if w.shots == 0 {
				t.Errorf("segments of %d: nothing was taken", k)
			}
		}
	}
}

// P16.3: however threads go on, begun anew as soon as they are done so that each try fails, a snapshot is taken.
func TestEnds(t *testing.T) {
	for _, kind := range kinds() {
		for _, param := range params(kind) {
			r := made(t, kind, param)
			w := watched(r)
			w.start(t, api.MaxTries)
			l, n := op.Of(kind), len(cellsOf(kind, param, r.Memory()))
			seed := uint64(param)
			scanned, bound := 0, 2*api.MaxTries*api.MaxCells+api.MaxCells
			for w.Scanning() {
				for thread := range 3 {
					r.Begin(thread, anyOp(&seed, l[next(&seed)%uint64(len(l))]))
				}
				for thread := range len(r.Busy()) {
					for range 12 {
						if thread < len(r.Busy()) {
							w.step(t, thread)
						}
					}
				}
				if w.Quiet() && len(r.Busy()) > 0 {
					continue
				}
				scanned++
				if _, some := w.step(t, len(r.Busy())); some {
					break
				}
				if scanned > bound {
					t.Fatalf("a %d of %d: no end in %d steps", kind, param, scanned)
				}
			}
			if w.shots != 1 || scanned < n {
				t.Errorf("a %d of %d: %d shots in %d steps of the scanner", kind, param, w.shots, scanned)
			}
		}
	}
}

// sameCall: are two calls one, bit by bit?
func sameCall(c, d history.Call) bool {
	return c.Thread == d.Thread && c.Begin == d.Begin && c.End == d.End &&
		sameEvent(engine.Event{Op: c.Op, Answer: c.Answer}, engine.Event{Op: d.Op, Answer: d.Answer})
}

// P16.4: while no snapshot is under way a runner does what its recorder would; one that was taken, ahead of it or not yet asked for, changes nothing of that.
func TestIsItsRecorder(t *testing.T) {
	for _, kind := range kinds() {
		for _, param := range params(kind) {
			r := made(t, kind, param)
			e, _ := engine.New(kind, param)
			twin := history.Of(e)
			seed, l := uint64(kind*31+param), op.Of(kind)
			ticks := 0
			for i := range 300 {
				if i%100 == 50 {
					starts(t, r, 1)
					still := r.Ticks()
					for r.Scanning() {
						scans(t, r, 1)
					}
					ticks += r.Ticks() - still
				}
				if i%100 == 80 {
					takes(t, r)
				}
				switch next(&seed) % 6 {
				case 0:
					r.Close()
					twin.Close()
				case 1, 2:
					r.Open()
					twin.Open()
				}
				thread, o := int(next(&seed)%8)-1, anyOp(&seed, l[next(&seed)%uint64(len(l))])
				if got, want := r.Begin(thread, o), twin.Begin(thread, o); got != want {
					t.Fatalf("Begin(%d, %+v): %d; want %d", thread, o, got, want)
				}
				pick := int(next(&seed)) - int(next(&seed))
				v, some := r.Pick(pick)
				want, wantSome := twin.Pick(pick)
				if !sameEvent(v, want) || some != wantSome {
					t.Fatalf("Pick(%d): %+v, %v; want %+v, %v", pick, v, some, want, wantSome)
				}
				if !slices.Equal(r.Busy(), twin.Busy()) || r.Closed() != twin.Closed() || r.Quiet() || r.Steps() != twin.Steps() || r.Ticks() != twin.Steps()+ticks || !holds(r.Value(), twin.Value()) {
					t.Fatalf("busy %d, %d; %d ticks, %d steps", r.Busy(), twin.Busy(), r.Ticks(), twin.Steps())
				}
			}
			if !slices.EqualFunc(r.Calls(), twin.Calls(), sameCall) || r.Memory().Clock() != twin.Memory().Clock() {
				t.Fatalf("a %d of %d: other calls than the recorder's", kind, param)
			}
		}
	}
}
