package lax_test

import (
	"math"
	"slices"
	"testing"

	"carryover/api"
	"carryover/engine"
	"carryover/history"
	"carryover/lax"
	"carryover/op"
	"carryover/pile"
	"carryover/value"
)

// next: numbers that look like chance, the same ones each time.
func next(seed *uint64) uint64 {
	*seed = *seed*6364136223846793005 + 1442695040888963407
	x := *seed ^ *seed>>29
	return x * 0x9e3779b97f4a7c15 >> 16
}

func kinds() []int {
	return []int{api.Multi, api.Kfifo, api.Tally, api.Net}
}

// vals: items of these numbers.
func vals(l ...int64) (out []pile.Item) {
	for _, n := range l {
		out = append(out, pile.Item{Val: n})
	}
	return out
}

func holds(kind int, l ...int64) value.Value {
	return value.Value{Kind: kind, Items: vals(l...)}
}

func counts(kind int, n int64) value.Value {
	return value.Value{Kind: kind, N: n}
}

// comes: an Insert or Enq of that number, which went well.
func comes(kind int, n int64, thread, begin, end int) history.Call {
	x := pile.Item{Val: n}
	return history.Call{Thread: thread, Op: op.Op{Kind: kind, Item: x}, Begin: begin, End: end, Answer: op.Answer{Ok: true, Item: x}}
}

// goes: a Delete or Deq that got that number.
func goes(kind int, n int64, thread, begin, end int) history.Call {
	return history.Call{Thread: thread, Op: op.Op{Kind: kind}, Begin: begin, End: end, Answer: op.Answer{Ok: true, Item: pile.Item{Val: n}}}
}

// fails: an operation that wasn't Ok.
func fails(kind, thread, begin, end int) history.Call {
	return history.Call{Thread: thread, Op: op.Op{Kind: kind}, Begin: begin, End: end}
}

func add(n int64, thread, begin, end int) history.Call {
	return history.Call{Thread: thread, Op: op.Op{Kind: op.Add, Item: pile.Item{Val: n}}, Begin: begin, End: end, Answer: op.Answer{Ok: true}}
}

// says: a Sum or Next that answered that number.
func says(kind int, n int64, thread, begin, end int) history.Call {
	return history.Call{Thread: thread, Op: op.Op{Kind: kind}, Begin: begin, End: end, Answer: op.Answer{Ok: true, N: n}}
}

// exact: the same one, bit by bit.
func exact(x, y pile.Item) bool {
	return math.Float64bits(x.Pri) == math.Float64bits(y.Pri) && x.Val == y.Val
}

// is: has a value all that another one has, bit by bit?
func is(v, w value.Value) bool {
	return v.Kind == w.Kind && v.N == w.N && slices.EqualFunc(v.Items, w.Items, exact)
}

// alike: are two calls one, bit by bit?
func alike(c, d history.Call) bool {
	return c.Thread == d.Thread && c.Begin == d.Begin && c.End == d.End &&
		c.Op.Kind == d.Op.Kind && exact(c.Op.Item, d.Op.Item) && c.Op.Draw == d.Op.Draw &&
		c.Answer.Ok == d.Answer.Ok && exact(c.Answer.Item, d.Answer.Item) && c.Answer.N == d.Answer.N
}

// check: what Check answers; what it is handed stays as it is, and shares nothing with the answer.
func check(t *testing.T, v value.Value, param int, l []history.Call) (value.Value, int, api.Errno) {
	t.Helper()
	items, calls := slices.Clone(v.Items), slices.Clone(l)
	w, place, err := lax.Check(v, param, l)
	kept := slices.Clone(w.Items)
	spoil(w.Items)
	if !slices.EqualFunc(v.Items, items, exact) || !slices.EqualFunc(l, calls, alike) {
		t.Fatalf("Check of %+v, %d, %+v changed that", v, param, l)
	}
	w.Items = kept
	return w, place, err
}

// spoil writes on all that a list has, and on what is behind it.
func spoil(l []pile.Item) {
	l = l[:cap(l)]
	for i := range l {
		l[i] = pile.Item{Pri: -7, Val: -7}
	}
}

// wants: Check answers just this.
func wants(t *testing.T, v value.Value, param int, l []history.Call, w value.Value, place int, want api.Errno) {
	t.Helper()
	got, i, err := check(t, v, param, l)
	if !is(got, w) || i != place || err != want {
		t.Fatalf("Check of %+v, %d,\n%+v:\n%+v, %d, %d; want\n%+v, %d, %d", v, param, l, got, i, err, w, place, want)
	}
}

func fine(t *testing.T, v value.Value, param int, l []history.Call, w value.Value) {
	t.Helper()
	wants(t, v, param, l, w, -1, api.OK)
}

func wrong(t *testing.T, v value.Value, param int, l []history.Call, w value.Value, place int) {
	t.Helper()
	wants(t, v, param, l, w, place, api.ErrState)
}

// told: Check, as the chapter's words say it: of each call all others.
func told(v value.Value, param int, l []history.Call) (value.Value, int, api.Errno) {
	if err := op.Legal(v.Kind, param); err != api.OK {
		return value.Value{}, -1, err
	}
	if err := history.Check(l); err != api.OK {
		return value.Value{}, -1, err
	}
	first, last := v.N, -1
	for {
		i := -1
		for k, c := range l {
			if c.End > last && (i < 0 || c.End < l[i].End) {
				i = k
			}
		}
		if i < 0 {
			return v, -1, api.OK
		}
		w, ok := v.After(l[i].Op, l[i].Answer, param)
		if !ok || !toldNumber(first, l, l[i]) {
			return v, i, api.ErrState
		}
		v, last = w, l[i].End
	}
}

func toldNumber(first int64, l []history.Call, c history.Call) bool {
	n, least, most, nexts, twice := c.Answer.N, first, first, int64(0), false
	for _, d := range l {
		switch {
		case d.Op.Kind == op.Next:
			if d.Begin <= c.End {
				nexts++
			}
			twice = twice || d.End >= 0 && d.End < c.End && d.Answer.N == n
		case d.Op.Kind == op.Add && d.End >= 0:
			if d.End < c.Begin {
				least += d.Op.Val
			}
			if d.End < c.End {
				most += d.Op.Val
			}
		}
	}
	switch c.Op.Kind {
	case op.Sum:
		return n >= least && n <= most
	case op.Next:
		return n >= first && n < first+nexts && !twice
	}
	return true
}

// asTold: Check answers what the words say.
func asTold(t *testing.T, v value.Value, param int, l []history.Call) api.Errno {
	t.Helper()
	w, place, err := told(v, param, l)
	wants(t, v, param, l, w, place, err)
	return err
}

// P15.1: kinds and parameters that may not be, ahead of calls that can't be; a zero value and -1 beside it.
func TestErrors(t *testing.T) {
	none, bad, fell := []history.Call{}, []history.Call{{Thread: 6}}, []history.Call{fails(op.Deq, 0, 2, 1)}
	for _, l := range [][]history.Call{nil, none, bad, fell, {fails(-4, 0, 0, 0)}} {
		for _, kind := range []int{0, 5, -1, 1 << 32, 1<<32 + 1, math.MinInt, math.MaxInt} {
			for _, param := range []int{1, 0, 17, math.MinInt} {
				wants(t, value.Value{Kind: kind, Items: vals(1), N: 3}, param, l, value.Value{}, -1, api.ErrKind)
			}
		}
		for _, kind := range kinds() {
			for _, param := range []int{0, 17, -1, 1<<32 + 1, math.MinInt, math.MaxInt} {
				wants(t, value.Value{Kind: kind, Items: vals(1), N: 3}, param, l, value.Value{}, -1, api.ErrParam)
			}
		}
		for _, param := range []int{3, 5, 6, 7, 9, 10, 12, 15} {
			wants(t, counts(api.Net, 3), param, l, value.Value{}, -1, api.ErrParam)
		}
	}
	for _, kind := range kinds() {
		v := value.Value{Kind: kind, Items: vals(1), N: 3}
		wants(t, v, 4, bad, value.Value{}, -1, api.ErrArg)
		wants(t, v, 4, []history.Call{fails(0, -1, 0, -1)}, value.Value{}, -1, api.ErrArg)
		for _, l := range [][]history.Call{
			fell,
			{fails(op.Deq, 0, -1, 1)},
			{fails(op.Deq, 0, 0, -2)},
			{fails(op.Deq, 0, 3, 3), fails(op.Deq, 1, 2, 4)},
			{fails(op.Deq, 0, 0, 3), fails(op.Deq, 0, 3, 4)},
			{fails(op.Deq, 0, 0, 3), fails(op.Deq, 1, 0, 3)},
		} {
			wants(t, v, 4, l, value.Value{}, -1, api.ErrOrder)
		}
		// calls that can't be so answered, ahead of the one that can't be
		wants(t, v, 4, []history.Call{fails(-4, 0, 0, 0), fails(op.Deq, 0, 1, 0)}, value.Value{}, -1, api.ErrOrder)
	}
}

// P15.1: without calls that were done all stays, whatever is under way.
func TestNothingDone(t *testing.T) {
	for _, kind := range kinds() {
		for _, param := range []int{1, 2, 4, 8, 16} {
			for _, v := range []value.Value{{Kind: kind}, {Kind: kind, N: 1 << 60}, {Kind: kind, Items: vals(1, 2, 2), N: 4}} {
				fine(t, v, param, nil, v)
				fine(t, v, param, []history.Call{}, v)
				l := []history.Call{{Thread: 5, Op: op.Op{Kind: op.Of(kind)[0]}, End: -1}, fails(-3, 0, 0, -1), add(-1, 1, 0, -1), says(op.Next, -5, 2, 7, -1)}
				fine(t, v, param, l, v)
			}
		}
	}
}

// P15.1: the example.
func TestExample(t *testing.T) {
	for _, width := range []int{1, 2, 4, 8, 16} {
		fine(t, counts(api.Net, 5), width, []history.Call{says(op.Next, 5, 0, 0, 0)}, counts(api.Net, 6))
		wrong(t, counts(api.Net, 5), width, []history.Call{says(op.Next, 6, 0, 0, 0)}, counts(api.Net, 5), 0)
	}
}

// P15.1: a Multi: what goes must be there, wherever it stands; by the order in which calls were done, not by that of the list.
func TestMulti(t *testing.T) {
	in, out, m := op.Insert, op.Delete, api.Multi
	for _, param := range []int{1, 2, 16} {
		fine(t, holds(m, 2, 4), param, []history.Call{comes(in, 3, 0, 0, 1)}, holds(m, 2, 3, 4))
		fine(t, holds(m, 2, 4), param, []history.Call{goes(out, 4, 0, 0, 1)}, holds(m, 2))
		fine(t, holds(m), param, []history.Call{goes(out, 4, 0, 0, 5), comes(in, 4, 1, 0, 4)}, holds(m))
		fine(t, holds(m, 1, 1), param, []history.Call{goes(out, 1, 0, 0, 5), goes(out, 1, 1, 0, 4), fails(out, 2, 0, 6)}, holds(m))
		// not Ok: an Insert found no room, a Delete nothing, as far as the words go
		fine(t, holds(m, 2, 4), param, []history.Call{fails(out, 0, 0, 1), fails(in, 1, 0, 2), fails(out, 0, 5, 6)}, holds(m, 2, 4))
		// what isn't there, isn't there yet, or any more
		wrong(t, holds(m, 2, 4), param, []history.Call{goes(out, 3, 0, 0, 1)}, holds(m, 2, 4), 0)
		wrong(t, holds(m, 7), param, []history.Call{goes(out, 4, 0, 0, 4), comes(in, 4, 1, 0, 5), comes(in, 2, 2, 0, 3)}, holds(m, 2, 7), 0)
		wrong(t, holds(m, 1, 1), param, []history.Call{goes(out, 1, 0, 0, 9), goes(out, 1, 1, 0, 4), goes(out, 1, 2, 1, 7)}, holds(m), 0)
		wrong(t, holds(m), param, []history.Call{comes(in, 4, 1, 0, -1), goes(out, 4, 0, 0, 5)}, holds(m), 1)
		wrong(t, value.Value{Kind: m, N: 3}, param, []history.Call{says(out, 0, 0, 0, 5)}, counts(m, 3), 0)
	}
}

// P15.1: priorities are held against each other, and kept, as items are.
func TestMultiPriorities(t *testing.T) {
	odd, canon, zero := math.Float64frombits(0xfff0000000000001), math.Float64frombits(0x7ff8000000000000), math.Copysign(0, -1)
	in := history.Call{Op: op.Op{Kind: op.Insert, Item: pile.Item{Pri: odd, Val: 1}}, End: 0, Answer: op.Answer{Ok: true}}
	out := func(f float64, end int) history.Call {
		return history.Call{Thread: 1, Op: op.Op{Kind: op.Delete}, End: end, Answer: op.Answer{Ok: true, Item: pile.Item{Pri: f, Val: 1}}}
	}
	v := value.Value{Kind: api.Multi, Items: []pile.Item{{Pri: zero, Val: 1}, {Val: 1}}}
	w := value.Value{Kind: api.Multi, Items: append(slices.Clone(v.Items), pile.Item{Pri: canon, Val: 1})}
	fine(t, v, 2, []history.Call{in}, w)
	fine(t, v, 2, []history.Call{in, out(-odd, 3)}, v)
	fine(t, v, 2, []history.Call{in, out(0, 3)}, value.Value{Kind: api.Multi, Items: []pile.Item{w.Items[0], w.Items[2]}})
	fine(t, v, 2, []history.Call{in, out(zero, 3)}, value.Value{Kind: api.Multi, Items: w.Items[1:]})
	wrong(t, v, 2, []history.Call{in, out(math.Inf(1), 3)}, w, 1)
}

// P15.1: a Kfifo: what goes is among the first k, as they came by the order in which calls were done.
func TestKfifo(t *testing.T) {
	in, out, q := op.Enq, op.Deq, api.Kfifo
	came := []history.Call{comes(in, 1, 0, 0, 7), comes(in, 2, 1, 0, 5), comes(in, 3, 2, 0, 6)} // 2, 3, 1 behind what was there
	for k := 1; k <= 16; k++ {
		fine(t, holds(q, 9), k, came, holds(q, 9, 2, 3, 1))
		for i, n := range []int64{9, 2, 3, 1, 5} {
			left := []int64{9, 2, 3, 1}
			l := append(slices.Clone(came), goes(out, n, 3, 0, 8))
			if i < k && i < len(left) {
				fine(t, holds(q, 9), k, l, holds(q, slices.Delete(left, i, i+1)...))
			} else {
				wrong(t, holds(q, 9), k, l, holds(q, left...), 3)
			}
		}
		// by a step ahead of those by which they came
		wrong(t, holds(q, 9), k, append(slices.Clone(came), goes(out, 1, 3, 0, 4)), holds(q, 9), 3)
		// of the same ones the first one goes
		fine(t, holds(q, 1, 2, 1), k, []history.Call{goes(out, 1, 3, 0, 4)}, holds(q, 2, 1))
		fine(t, holds(q, 1, 2, 1), k, []history.Call{goes(out, 1, 3, 0, 4), goes(out, 2, 4, 0, 5), fails(out, 5, 0, 6), fails(in, 0, 0, 7)}, holds(q, 1))
	}
	fine(t, holds(q, 4, 5, 6), 2, []history.Call{goes(out, 5, 0, 0, 0), goes(out, 6, 0, 1, 1), goes(out, 4, 0, 2, 2)}, holds(q))
	wrong(t, holds(q, 4, 5, 6), 2, []history.Call{goes(out, 5, 0, 0, 0), goes(out, 4, 0, 1, 1), goes(out, 4, 0, 2, 2)}, holds(q, 6), 2)
}

// P15.1: a Sum: from what was added by steps ahead of its Begin on, up to what was by steps ahead of its End; those under way, or done later, say nothing.
func TestTally(t *testing.T) {
	for _, first := range []int64{0, 10, 1 << 60} {
		for _, param := range []int{1, 3, 16} {
			l := []history.Call{
				add(1, 0, 0, 4),   // one step ahead of the Sum's Begin
				add(2, 1, 0, 5),   // by the step that is the first one behind it
				add(4, 2, 0, -1),  // under way
				add(8, 3, 0, 8),   // one step ahead of its End
				add(16, 4, 0, 10), // one step behind it
				says(op.Sum, 0, 5, 5, 9),
				add(32, 0, 5, -1),
				add(64, 1, 9, 11),
			}
			for n := int64(-2); n < 130; n++ {
				l[5].Answer.N = first + n
				if n >= 1 && n <= 11 {
					fine(t, counts(api.Tally, first), param, l, counts(api.Tally, first+91))
				} else {
					wrong(t, counts(api.Tally, first), param, l, counts(api.Tally, first+11), 5)
				}
			}
			for _, n := range []int64{math.MinInt64, -1 << 62, -1, math.MaxInt64, 1<<60 + 1<<40} {
				l[5].Answer.N = n
				wrong(t, counts(api.Tally, first), param, l, counts(api.Tally, first+11), 5)
			}
		}
	}
}

// P15.1: Sums beside Sums: what one answered says nothing of another one; nor does it change what is there.
func TestSums(t *testing.T) {
	v := counts(api.Tally, 3)
	// of two that were done one behind the other the later one may answer less
	l := []history.Call{says(op.Sum, 8, 0, 0, 6), says(op.Sum, 3, 1, 0, 7), add(5, 2, 0, 4)}
	fine(t, v, 2, l, counts(api.Tally, 8))
	l = []history.Call{says(op.Sum, 3, 0, 0, 0), add(5, 0, 1, 1), says(op.Sum, 8, 0, 2, 2), says(op.Sum, 8, 0, 3, 3), add(0, 0, 4, 4), says(op.Sum, 8, 0, 5, 5)}
	fine(t, v, 2, l, counts(api.Tally, 8))
	l[3].Answer.N = 3
	wrong(t, v, 2, l, counts(api.Tally, 8), 3)
	l[0].Answer.N = 8
	wrong(t, v, 2, l, counts(api.Tally, 3), 0)
	fine(t, v, 2, []history.Call{says(op.Sum, 3, 0, math.MaxInt-1, math.MaxInt)}, v)
	wrong(t, v, 2, []history.Call{add(1, 0, 0, math.MaxInt-2), says(op.Sum, 3, 1, math.MaxInt-1, math.MaxInt)}, counts(api.Tally, 4), 1)
	fine(t, v, 2, []history.Call{add(1, 0, 0, math.MaxInt), says(op.Sum, 3, 1, math.MaxInt-1, math.MaxInt-1)}, counts(api.Tally, 4))
}

// P15.1: counters are always Ok, and add from 0 up to 2^32.
func TestTallyWrong(t *testing.T) {
	v := counts(api.Tally, 3)
	fine(t, v, 2, []history.Call{add(1<<32, 0, 0, 0), add(0, 0, 1, 1)}, counts(api.Tally, 3+1<<32))
	for _, n := range []int64{-1, 1<<32 + 1, math.MinInt64, math.MaxInt64} {
		wrong(t, v, 2, []history.Call{add(4, 1, 0, 2), add(n, 0, 0, 1), says(op.Sum, 3, 2, 0, 0)}, v, 1)
	}
	wrong(t, v, 2, []history.Call{add(4, 1, 0, 2), fails(op.Add, 0, 0, 3)}, counts(api.Tally, 7), 1)
	wrong(t, counts(api.Tally, 0), 2, []history.Call{fails(op.Sum, 0, 0, 3)}, counts(api.Tally, 0), 0)
	wrong(t, counts(api.Net, 0), 2, []history.Call{fails(op.Next, 0, 0, 3)}, counts(api.Net, 0), 0)
}

// P15.1: a Next: from what was there on, below that and how many Nexts began no later than its last step, those under way among them, and others' kinds not.
func TestNet(t *testing.T) {
	for _, first := range []int64{0, 7, 1 << 60} {
		for _, width := range []int{1, 2, 16} {
			l := []history.Call{
				says(op.Next, 0, 5, 0, 9),
				says(op.Next, first, 0, 2, -1),
				says(op.Next, first+5, 1, 9, 30),
				says(op.Sum, 0, 4, 9, -1),
				says(op.Next, 0, 2, 9, -1), // began by the step behind which there were 9
				says(op.Next, first+2, 3, 10, 40),
				says(op.Next, first+1, 5, 10, 41),
			}
			for n := int64(-2); n < 8; n++ {
				l[0].Answer.N = first + n
				switch {
				case n < 0 || n >= 4:
					wrong(t, counts(api.Net, first), width, l, counts(api.Net, first), 0)
				case n == 2:
					wrong(t, counts(api.Net, first), width, l, counts(api.Net, first+2), 5)
				case n == 1:
					wrong(t, counts(api.Net, first), width, l, counts(api.Net, first+3), 6)
				default:
					fine(t, counts(api.Net, first), width, l, counts(api.Net, first+4))
				}
			}
			for _, n := range []int64{math.MinInt64, -1 << 62, -1, math.MaxInt64, 1<<60 + 6} {
				l[0].Answer.N = n
				wrong(t, counts(api.Net, first), width, l, counts(api.Net, first), 0)
			}
		}
	}
}

// P15.1: no two get one number, however they lie; the later one to be done can't have got it.
func TestNetTwice(t *testing.T) {
	v := counts(api.Net, 7)
	wrong(t, v, 4, []history.Call{says(op.Next, 7, 0, 0, 6), says(op.Next, 7, 1, 0, 5)}, counts(api.Net, 8), 0)
	wrong(t, v, 4, []history.Call{says(op.Next, 7, 0, 0, 5), says(op.Next, 7, 0, 6, 6)}, counts(api.Net, 8), 1)
	wrong(t, v, 4, []history.Call{says(op.Next, 8, 0, 0, 9), says(op.Next, 7, 1, 0, 5), says(op.Next, 7, 2, 0, 12), says(op.Next, 9, 3, 0, 11)}, counts(api.Net, 10), 2)
	// one that answers later may have the less one, and what wasn't done has none
	fine(t, v, 4, []history.Call{says(op.Next, 8, 0, 0, 5), says(op.Next, 7, 1, 5, 6), says(op.Next, 8, 2, 5, -1)}, counts(api.Net, 9))
	wrong(t, v, 4, []history.Call{says(op.Next, 8, 0, 0, 5), says(op.Next, 7, 1, 6, 6)}, v, 0)
	fine(t, v, 4, []history.Call{says(op.Next, 7, 0, 0, math.MaxInt), says(op.Next, 8, 1, math.MaxInt, -1)}, counts(api.Net, 8))
	fine(t, v, 4, []history.Call{says(op.Next, 8, 0, 0, math.MaxInt), says(op.Next, 7, 1, math.MaxInt, -1)}, counts(api.Net, 8))
}

// P15.1: operations of other kinds of structures, or of none, were never done here.
func TestOtherKinds(t *testing.T) {
	for _, kind := range kinds() {
		v := value.Value{Kind: kind, Items: vals(0), N: 0}
		for _, k := range []int{-1, 0, 1, 2, 3, 4, 5, 6, 7, 8, 1<<32 + 1, math.MinInt, math.MaxInt} {
			l := []history.Call{says(k, 0, 3, 0, 4), fails(0, 2, 0, -1)}
			if slices.Contains(op.Of(kind), k) {
				if w, place, err := check(t, v, 1, l); err != api.OK || place != -1 {
					t.Errorf("Check of kind %d, operation %d: %+v, %d, %d", kind, k, w, place, err)
				}
				continue
			}
			wrong(t, v, 1, l, v, 0)
			l[0].Answer.Ok = false
			wrong(t, v, 1, l, v, 0)
		}
	}
}

// P15.1: of several that can't have been so answered, the place of the first one, as they were done.
func TestFirst(t *testing.T) {
	l := []history.Call{goes(op.Deq, 5, 0, 0, 9), goes(op.Deq, 6, 1, 0, 3), comes(op.Enq, 4, 2, 0, 1), goes(op.Deq, 7, 3, 1, 2), comes(op.Enq, 8, 4, 1, 0+1<<40)}
	wrong(t, holds(api.Kfifo, 1), 3, l, holds(api.Kfifo, 1, 4), 3)
	l[3].Answer.Item.Val = 1
	wrong(t, holds(api.Kfifo, 1), 3, l, holds(api.Kfifo, 4), 1)
	l[1].Answer.Item.Val = 4
	wrong(t, holds(api.Kfifo, 1), 3, l, holds(api.Kfifo), 0)
	l[0].Answer = op.Answer{}
	fine(t, holds(api.Kfifo, 1), 3, l, holds(api.Kfifo, 8))
}

// all: all lists of so many of these calls, of threads 0, 1 and so on, that may have been written down.
func all(t *testing.T, v value.Value, param int, calls []history.Call, many int) {
	t.Helper()
	lists, got := [][]history.Call{nil}, map[api.Errno]int{}
	for thread := range many {
		var longer [][]history.Call
		for _, l := range lists {
			for _, c := range calls {
				c.Thread = thread
				m := append(slices.Clone(l), c)
				err := asTold(t, v, param, m)
				got[err]++
				if err == api.OK || err == api.ErrState {
					longer = append(longer, m)
				}
			}
		}
		lists = longer
	}
	if got[api.OK] < 1000 || got[api.ErrState] < 1000 {
		t.Errorf("lists by what is answered: %v", got)
	}
}

// P15.1: all short lists of Nexts, beside the chapter's words.
func TestNetAll(t *testing.T) {
	var calls []history.Call
	for begin := range 3 {
		for end := begin; end <= 4; end++ {
			for n := int64(1); n <= 5; n++ {
				calls = append(calls, says(op.Next, n, 0, begin, end))
			}
		}
		calls = append(calls, says(op.Next, 2, 0, begin, -1))
	}
	all(t, counts(api.Net, 2), 2, calls, 3)
}

// P15.1: all short lists of Adds and Sums, beside the chapter's words.
func TestTallyAll(t *testing.T) {
	var calls []history.Call
	for begin := range 4 {
		for end := begin; end <= 4; end++ {
			calls = append(calls, add(1, 0, begin, end), add(2, 0, begin, end))
			for n := int64(5); n <= 8; n++ {
				calls = append(calls, says(op.Sum, n, 0, begin, end))
			}
		}
		calls = append(calls, add(1, 0, begin, -1))
	}
	all(t, counts(api.Tally, 5), 2, calls, 3)
}

// P15.1: any calls, most of which might be, beside the chapter's words.
func TestAny(t *testing.T) {
	seed, got := uint64(91), map[api.Errno]int{}
	for _, kind := range kinds() {
		for round := range 4000 {
			param := []int{1, 2, 4, 16}[next(&seed)%4]
			v := value.Value{Kind: kind, N: int64(next(&seed) % 5)}
			if kind == api.Multi || kind == api.Kfifo {
				v.Items = pile.Sorted(vals(anyNumbers(&seed)...))
			}
			l := likely(&seed, kind, v, 1+round%25)
			if next(&seed)%5 == 0 {
				bend(&seed, l)
			}
			got[asTold(t, v, param, l)]++
		}
	}
	if got[api.OK] < 1000 || got[api.ErrState] < 1000 || got[api.ErrOrder] < 100 {
		t.Errorf("lists by what is answered: %v", got)
	}
}

func anyNumbers(seed *uint64) (l []int64) {
	for range next(seed) % 6 {
		l = append(l, int64(next(seed)%4))
	}
	return l
}

// likely: calls as six threads make them, a step each, in any order; what goes is often there, and numbers are often near.
func likely(seed *uint64, kind int, v value.Value, many int) (l []history.Call) {
	var at [6]int // one more than the call that a thread is at
	near := v.N
	for steps := 0; len(l) < many || next(seed)%8 > 0; {
		thread := int(next(seed) % 6)
		k := at[thread]
		if k == 0 && len(l) < many {
			kinds := op.Of(kind)
			o := op.Op{Kind: kinds[next(seed)%uint64(len(kinds))], Item: pile.Item{Val: int64(next(seed) % 4)}}
			l = append(l, history.Call{Thread: thread, Op: o, Begin: steps, End: -1})
			at[thread] = len(l)
			continue
		}
		if k > 0 && next(seed)%3 == 0 {
			c := &l[k-1]
			c.End, at[thread] = steps, 0
			c.Answer = op.Answer{Ok: kind != api.Kfifo && kind != api.Multi || next(seed)%4 > 0, Item: pile.Item{Val: int64(next(seed) % 4)}, N: near}
			switch c.Op.Kind {
			case op.Add:
				near += c.Op.Val
			case op.Next:
				near++
			}
		}
		steps++
	}
	return l
}

// bend changes one call: its thread, its times, its operation, its answer.
func bend(seed *uint64, l []history.Call) {
	c := &l[next(seed)%uint64(len(l))]
	switch next(seed) % 6 {
	case 0:
		c.Thread = int(next(seed)%8) - 1
	case 1:
		c.Begin += int(next(seed)%5) - 2
	case 2:
		c.End += int(next(seed)%5) - 2
	case 3:
		c.Op.Kind = int(next(seed) % 9)
	case 4:
		c.Answer.Ok = !c.Answer.Ok
	default:
		c.Answer.N += int64(next(seed)%5) - 2
	}
}

// P15.1: long lists end, and soon.
func TestLong(t *testing.T) {
	const many = 200000
	var nexts, adds []history.Call
	for k := range many {
		nexts = append(nexts, says(op.Next, int64(k^1), k%6, max(0, k-2), k))
		adds = append(adds, add(3, k%6, 2*k, 2*k+3))
		if k%2 > 0 {
			adds[k] = says(op.Sum, int64(3*(k/2)), k%6, 2*k, 2*k+3)
		}
	}
	fine(t, counts(api.Net, 0), 16, nexts, counts(api.Net, many))
	fine(t, counts(api.Tally, 0), 16, adds, counts(api.Tally, 3*many/2))
	nexts[many-1].Answer.N = 17
	wrong(t, counts(api.Net, 0), 16, nexts, counts(api.Net, many-1), many-1)
	adds[many-1].Answer.N = 17
	wrong(t, counts(api.Tally, 0), 16, adds, counts(api.Tally, 3*many/2), many-1)
}

func recorded(t *testing.T, e *engine.Engine, err api.Errno) *history.Recorder {
	t.Helper()
	if err != api.OK {
		t.Fatalf("an engine: %d", err)
	}
	return history.Of(e)
}

// relaxed: what a recorder's threads did may have been answered so, and what there is is what Check says.
func relaxed(t *testing.T, first value.Value, r *history.Recorder, distinct bool) {
	t.Helper()
	l := r.Calls()
	v, place, err := check(t, first, r.Param(), l)
	if err != api.OK || place != -1 {
		t.Fatalf("a %d of %d that held %+v: call %d can't have been answered so, %d:\n%+v", r.Kind(), r.Param(), first, place, err, l)
	}
	w := r.Value()
	if !distinct && r.Kind() == api.Kfifo { // of the same ones another one may have gone
		v.Items, w.Items = pile.Sorted(v.Items), pile.Sorted(w.Items)
	}
	if !v.Same(w) {
		t.Fatalf("a %d of %d that held %+v holds %+v; Check says %+v:\n%+v", r.Kind(), r.Param(), first, w, v, l)
	}
}

// P15.2: by hand: of two that are the same the later one goes, as a draw asks for; Check has the first one go.
func TestSameOnes(t *testing.T) {
	e, err := engine.New(api.Kfifo, 3)
	r := recorded(t, e, err)
	for _, n := range []int64{1, 2, 1} {
		r.Begin(0, op.Op{Kind: op.Enq, Item: pile.Item{Val: n}})
		drain(r, func() int { return 0 })
	}
	r.Begin(0, op.Op{Kind: op.Deq, Draw: [2]int{2}})
	drain(r, func() int { return 0 })
	if w := r.Value(); !is(w, holds(api.Kfifo, 1, 2)) {
		t.Fatalf("the engine holds %+v", w)
	}
	fine(t, holds(api.Kfifo), 3, r.Calls(), holds(api.Kfifo, 2, 1))
	relaxed(t, holds(api.Kfifo), r, false)
}

func drain(r *history.Recorder, pick func() int) {
	for len(r.Busy()) > 0 {
		r.Pick(pick())
	}
}

// P15.2: all ways in which a few operations go past one another, at structures in which something is already; whenever one is done.
func TestAllWays(t *testing.T) {
	deq, next := op.Op{Kind: op.Deq}, op.Op{Kind: op.Next}
	enq := func(n int64) op.Op { return op.Op{Kind: op.Enq, Item: pile.Item{Val: n}} }
	in := func(n int64, draw int) op.Op {
		return op.Op{Kind: op.Insert, Item: pile.Item{Val: n}, Draw: [2]int{draw}}
	}
	out := op.Op{Kind: op.Delete, Draw: [2]int{0, 1}}
	add := func(n int64, draw int) op.Op {
		return op.Op{Kind: op.Add, Item: pile.Item{Val: n}, Draw: [2]int{draw}}
	}
	sum := op.Op{Kind: op.Sum}
	for _, c := range []struct {
		kind, param int
		first, then []op.Op
		late        op.Op // begins when the first one is done
	}{
		{api.Multi, 2, []op.Op{in(2, 0), in(1, 1)}, []op.Op{out, out}, in(3, 0)},
		{api.Multi, 2, []op.Op{in(2, 0)}, []op.Op{in(0, 1), out}, out},
		{api.Multi, 2, []op.Op{in(2, 0)}, []op.Op{in(0, 1), in(3, 0), out}, out},
		{api.Multi, 1, []op.Op{in(2, 0)}, []op.Op{out, in(2, 0)}, out},
		{api.Kfifo, 2, []op.Op{enq(1), enq(2)}, []op.Op{deq, deq}, enq(3)},
		{api.Kfifo, 2, []op.Op{enq(1)}, []op.Op{deq, enq(1)}, deq},
		{api.Kfifo, 1, nil, []op.Op{enq(1), deq}, deq},
		{api.Tally, 2, []op.Op{add(3, 0), add(4, 1)}, []op.Op{add(1, 0), add(2, 1), sum}, sum},
		{api.Tally, 3, nil, []op.Op{sum, add(2, 2)}, add(2, 2)},
		{api.Tally, 3, nil, []op.Op{sum, add(2, 2), add(3, 2)}, sum},
		{api.Net, 2, []op.Op{next}, []op.Op{next, next, next}, next},
		{api.Net, 4, []op.Op{next, next, next}, []op.Op{next, next}, next},
	} {
		ways := 0
		for picks := []int{}; picks != nil; ways++ {
			e, err := engine.New(c.kind, c.param)
			r := recorded(t, e, err)
			for _, o := range c.first {
				r.Begin(0, o)
				drain(r, func() int { return 0 })
			}
			picks = oneWay(t, history.Of(r.Engine), c.then, c.late, picks)
		}
		if ways < 10 {
			t.Errorf("a %d of %d: %d ways", c.kind, c.param, ways)
		}
	}
}

// oneWay goes by picks, and behind them by the first of the busy ones; it answers the picks of the next way, nil behind the last one.
func oneWay(t *testing.T, r *history.Recorder, l []op.Op, late op.Op, picks []int) []int {
	t.Helper()
	first := r.Value()
	for thread, o := range l {
		r.Begin(thread, o)
	}
	var among []int
	for step := 0; len(r.Busy()) > 0; step++ {
		if step == len(picks) {
			picks = append(picks, 0)
		}
		among = append(among, len(r.Busy()))
		v, _ := r.Pick(picks[step])
		if v.Done && len(r.Calls()) == len(l) {
			r.Begin(5, late)
		}
		if v.Done {
			relaxed(t, first, r, false)
		}
	}
	for step := len(among) - 1; step >= 0; step-- {
		if picks[step]+1 < among[step] {
			next := slices.Clone(picks[:step+1])
			next[step]++
			return next
		}
	}
	return nil
}

// anyOp: of a few items, so that many are the same, or of those that are their own; draws of all sorts.
func anyOp(seed *uint64, kind int, own int64) op.Op {
	l, draws := op.Of(kind), []int{0, 1, -1, 5, math.MinInt, math.MaxInt}
	o := op.Op{Kind: l[next(seed)%uint64(len(l))], Item: pile.Item{Pri: []float64{0, 1, -2, math.NaN()}[next(seed)%4], Val: int64(next(seed) % 3)}}
	if own > 0 {
		o.Val = own
	}
	o.Draw = [2]int{draws[next(seed)%6], draws[next(seed)%6]}
	return o
}

// P15.2: any threads, any picks, at structures in which nothing is, and at those that others have worked at; the gate opens and closes.
func TestAnyThreads(t *testing.T) {
	seed := uint64(92)
	for _, kind := range kinds() {
		for _, param := range []int{1, 2, 4, 8, 16} {
			for round := range 8 {
				distinct := round%2 > 0
				e, err := engine.New(kind, param)
				r, own := recorded(t, e, err), int64(0)
				for range 3 { // each time with the memory that the one before has left
					own = anyRun(t, &seed, r, distinct, own)
					e, err = engine.With(kind, param, r.Memory())
					r = recorded(t, e, err)
				}
			}
		}
	}
}

func anyRun(t *testing.T, seed *uint64, r *history.Recorder, distinct bool, own int64) int64 {
	t.Helper()
	first, began := r.Value(), 2+next(seed)%5
	for step := range 400 {
		switch x := next(seed) % 12; {
		case x == 0 && next(seed)%4 == 0:
			r.Close()
		case x == 1:
			r.Open()
		case x < 2+began:
			if distinct {
				own++
			}
			r.Begin(int(next(seed)%6), anyOp(seed, r.Kind(), own))
		default:
			r.Pick(int(next(seed)))
		}
		if step%20 == 0 {
			relaxed(t, first, r, distinct)
		}
	}
	r.Close()
	drain(r, func() int { return int(next(seed)) })
	relaxed(t, first, r, distinct)
	return own
}

// P15.1: what threads at an engine did, with one call changed, beside the chapter's words.
func TestBentRuns(t *testing.T) {
	seed, got := uint64(93), map[api.Errno]int{}
	for _, kind := range kinds() {
		for round := range 60 {
			e, err := engine.New(kind, 4)
			r := recorded(t, e, err)
			anyRun(t, &seed, r, round%2 > 0, 0)
			for range 12 {
				l := r.Calls()
				bend(&seed, l)
				got[asTold(t, value.Value{Kind: kind}, []int{1, 2, 4}[next(&seed)%3], l)]++
			}
		}
	}
	if got[api.OK] < 100 || got[api.ErrState] < 100 {
		t.Errorf("runs by what is answered: %v", got)
	}
}
