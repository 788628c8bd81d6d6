package value_test

import (
	"math"
	"slices"
	"testing"

	"carryover/api"
	"carryover/cell"
	"carryover/kfifo"
	"carryover/multi"
	"carryover/net"
	"carryover/op"
	"carryover/pile"
	"carryover/tally"
	"carryover/value"
)

const canonBits = 0x7ff8000000000000

// next: numbers that look like chance, the same ones each time.
func next(seed *uint64) uint64 {
	*seed = *seed*6364136223846793005 + 1442695040888963407
	x := *seed ^ *seed>>29
	return x * 0x9e3779b97f4a7c15 >> 16
}

func bits(b uint64) float64 {
	return math.Float64frombits(b)
}

// rising: priorities in order, each its own.
func rising() []float64 {
	return []float64{math.Inf(-1), -math.MaxFloat64, -1, -math.SmallestNonzeroFloat64, math.Copysign(0, -1), 0, math.SmallestNonzeroFloat64, 1, math.MaxFloat64, math.Inf(1), bits(canonBits)}
}

// nans: of many bits; all of them are the same, and behind all others.
func nans() []float64 {
	return []float64{math.NaN(), bits(canonBits), bits(0x7ff0000000000001), bits(0xfff0000000000001), bits(0xfff8000000000000), bits(0x7fffffffffffffff), bits(0xffffffffffffffff)}
}

// canon: an item as it is kept.
func canon(x pile.Item) pile.Item {
	if math.IsNaN(x.Pri) {
		x.Pri = bits(canonBits)
	}
	return x
}

// exact: the same one, bit by bit.
func exact(x, y pile.Item) bool {
	return math.Float64bits(x.Pri) == math.Float64bits(y.Pri) && x.Val == y.Val
}

// vals: items of these numbers.
func vals(l ...int64) (out []pile.Item) {
	for _, n := range l {
		out = append(out, pile.Item{Val: n})
	}
	return out
}

func pri(f float64) pile.Item {
	return pile.Item{Pri: f}
}

// is: has a value all that another one has, bit by bit?
func is(v, w value.Value) bool {
	return v.Kind == w.Kind && v.N == w.N && slices.EqualFunc(v.Items, w.Items, exact)
}

func holds(kind int, l ...pile.Item) value.Value {
	return value.Value{Kind: kind, Items: l}
}

func counts(kind int, n int64) value.Value {
	return value.Value{Kind: kind, N: n}
}

// params: those that a kind may have.
func params(kind int) []int {
	if kind == api.Net {
		return []int{1, 2, 4, 8, 16}
	}
	return []int{1, 2, 3, 4, 5, 6, 7, 8, 9, 10, 11, 12, 13, 14, 15, 16}
}

func kinds() []int {
	return []int{api.Multi, api.Kfifo, api.Tally, api.Net}
}

// alike: have two memories the same cells, bit by bit, with the same versions, and the same clock?
func alike(m, n *cell.Memory) bool {
	if m.Len() != n.Len() || m.Clock() != n.Clock() {
		return false
	}
	for i := range m.Len() {
		c, d := m.Read(i), n.Read(i)
		if c.Ver != d.Ver || c.N != d.N || !slices.EqualFunc(c.L, d.L, exact) {
			return false
		}
	}
	return true
}

// of: what Of answers of a structure that may be; the memory stays as it is.
func of(t *testing.T, kind, param int, m *cell.Memory) value.Value {
	t.Helper()
	before := m.Clone()
	v, e := value.Of(kind, param, m)
	if e != api.OK || v.Kind != kind || !alike(m, before) {
		t.Fatalf("Of(%d, %d): %+v, %d; the memory is as it was: %v", kind, param, v, e, alike(m, before))
	}
	return v
}

// P12.1: parameters that may not be, and kinds that there are none of: Legal's error, beside a zero Value.
func TestOfErrors(t *testing.T) {
	m := cell.New()
	m.Force(2, cell.Value{N: 1, L: vals(7)})
	for _, kind := range []int{0, 5, 6, -1, 100, 1 << 32, 1<<32 + 1, math.MinInt, math.MaxInt} {
		for _, param := range []int{1, 0, 16, 17, -1, math.MinInt, math.MaxInt} {
			if v, e := value.Of(kind, param, m); e != api.ErrKind || !is(v, value.Value{}) {
				t.Errorf("Of(%d, %d): %+v, %d", kind, param, v, e)
			}
		}
	}
	for _, kind := range kinds() {
		for _, param := range []int{0, 17, 18, -1, -16, 32, 1 << 32, 1<<32 + 1, math.MinInt, math.MaxInt} {
			if v, e := value.Of(kind, param, m); e != api.ErrParam || !is(v, value.Value{}) {
				t.Errorf("Of(%d, %d): %+v, %d", kind, param, v, e)
			}
		}
	}
	for param := range 17 {
		if v, e := value.Of(api.Net, param, m); !slices.Contains(params(api.Net), param) && (e != api.ErrParam || !is(v, value.Value{})) {
			t.Errorf("Of a Net of %d: %+v, %d", param, v, e)
		}
	}
}

// P12.1: a memory in which nothing was written: nothing, of each kind, with each parameter that may be.
func TestOfNothing(t *testing.T) {
	for _, kind := range kinds() {
		for _, param := range params(kind) {
			if v := of(t, kind, param, cell.New()); !is(v, counts(kind, 0)) {
				t.Errorf("Of(%d, %d): %+v", kind, param, v)
			}
		}
	}
}

// P12.1: a Multi: the items of its shards, of so many and no more, in order, those that are the same among them.
func TestOfMulti(t *testing.T) {
	m := cell.New()
	for i := range 20 { // shard i has i, 100 - i, and 7
		m.Force(i, cell.Value{L: pile.Sorted([]pile.Item{pri(float64(i)), pri(float64(100 - i)), pri(7)})})
	}
	for _, param := range params(api.Multi) {
		var want []pile.Item
		for f := range 101 {
			for i := range param {
				for _, g := range []int{i, 100 - i, 7} {
					if f == g {
						want = append(want, pri(float64(f)))
					}
				}
			}
		}
		if v := of(t, api.Multi, param, m); !is(v, holds(api.Multi, want...)) {
			t.Errorf("Of %d shards: %+v", param, v)
		}
	}
	// shards between which one is empty, or was never written
	m = cell.New()
	m.Force(3, cell.Value{L: []pile.Item{{Pri: 1, Val: 5}}})
	m.Force(0, cell.Value{L: []pile.Item{{Pri: 1, Val: -5}, {Pri: 2, Val: math.MinInt64}}})
	m.Force(1, cell.Value{})
	if v := of(t, api.Multi, 4, m); !is(v, holds(api.Multi, pile.Item{Pri: 1, Val: -5}, pile.Item{Pri: 1, Val: 5}, pile.Item{Pri: 2, Val: math.MinInt64})) {
		t.Errorf("Of: %+v", v)
	}
	// by priorities of all sorts, one a shard, from the last one to the first
	m = cell.New()
	l := rising()
	var want []pile.Item
	for k, f := range l {
		m.Force(len(l)-1-k, cell.Value{L: []pile.Item{pri(f)}})
		want = append(want, pri(f))
	}
	if v := of(t, api.Multi, len(l), m); !is(v, holds(api.Multi, want...)) {
		t.Errorf("Of: %+v", v)
	}
}

// P12.1: what a Multi's machine wrote.
func TestOfMultiMachine(t *testing.T) {
	for _, param := range params(api.Multi) {
		s, _ := multi.New(param)
		m := cell.New()
		for k, f := range slices.Concat(nans(), rising()) {
			op.Alone(s, m, op.Op{Kind: op.Insert, Item: pile.Item{Pri: f, Val: int64(-k)}, Draw: [2]int{k * k}}, 2)
		}
		v := of(t, api.Multi, param, m)
		if len(v.Items) != len(nans())+len(rising()) || !slices.IsSortedFunc(v.Items, func(x, y pile.Item) int { return x.Cmp(y) }) {
			t.Fatalf("Of %d shards: %+v", param, v)
		}
		for k, x := range v.Items {
			if !exact(x, canon(x)) || math.IsNaN(x.Pri) != (k >= len(rising())-1) {
				t.Errorf("Of %d shards: at %d there is %x", param, k, math.Float64bits(x.Pri))
			}
		}
	}
}

// P12.1: a Kfifo: the items of its Full slots, by the versions of these cells; neither of Empty nor Taken ones, nor of the Head and the Tail.
func TestOfKfifo(t *testing.T) {
	for _, param := range params(api.Kfifo) {
		m := cell.New()
		m.Force(kfifo.Tail, cell.Value{N: 1})
		m.Force(9, cell.Value{N: kfifo.Full, L: vals(1)})
		m.Force(2, cell.Value{N: kfifo.Full, L: vals(9)}) // to be written once more
		m.Force(5, cell.Value{N: kfifo.Full, L: vals(2)})
		m.Force(3, cell.Value{N: kfifo.Full, L: vals(3)})
		m.Force(7, cell.Value{N: kfifo.Full, L: vals(9)})
		m.Force(8, cell.Value{N: kfifo.Full, L: vals(1)})
		m.Force(7, cell.Value{N: kfifo.Taken})
		m.Force(kfifo.Head, cell.Value{N: 1})
		m.Force(2, cell.Value{N: kfifo.Full, L: vals(4)})
		m.Force(6, cell.Value{N: kfifo.Empty})
		if v := of(t, api.Kfifo, param, m); !is(v, holds(api.Kfifo, vals(1, 2, 3, 1, 4)...)) {
			t.Errorf("Of %d slots: %+v", param, v)
		}
	}
}

// P12.1: a Kfifo whose items came in another order than their slots stand in, and of which some have gone.
func TestOfKfifoMachine(t *testing.T) {
	for _, param := range params(api.Kfifo) {
		q, _ := kfifo.New(param)
		m, want := cell.New(), []pile.Item(nil)
		for k := range 40 {
			x := pile.Item{Pri: nans()[k%7], Val: int64(k % 11)}
			if a, _ := op.Alone(q, m, op.Op{Kind: op.Enq, Item: x, Draw: [2]int{-k * k}}, 50); !a.Ok {
				t.Fatalf("Enq: %+v", a)
			}
			want = append(want, canon(x))
			if v := of(t, api.Kfifo, param, m); !is(v, holds(api.Kfifo, want...)) {
				t.Fatalf("Of %d slots: %+v; want %+v", param, v, want)
			}
		}
		for range 40 {
			a, _ := op.Alone(q, m, op.Op{Kind: op.Deq}, 100)
			at := slices.IndexFunc(want[:min(param, len(want))], func(x pile.Item) bool { return exact(x, a.Item) })
			if !a.Ok || at < 0 {
				t.Fatalf("Deq: %+v", a)
			}
			want = slices.Delete(want, at, at+1)
			if v := of(t, api.Kfifo, param, m); param < 11 && !is(v, holds(api.Kfifo, want...)) || len(v.Items) != len(want) {
				t.Fatalf("Of %d slots: %+v; want %+v", param, v, want)
			}
		}
	}
}

// P12.1: as many items as there is room for, up to the last cell, the last slot's first.
func TestOfKfifoFull(t *testing.T) {
	m, want := cell.New(), []pile.Item(nil)
	for i := api.MaxCells - 1; i >= kfifo.Base; i-- {
		m.Force(i, cell.Value{N: kfifo.Full, L: vals(int64(i))})
		want = append(want, vals(int64(i))...)
	}
	for _, param := range []int{1, 2} {
		if v := of(t, api.Kfifo, param, m); !is(v, holds(api.Kfifo, want...)) {
			t.Errorf("Of %d slots: %d items", param, len(v.Items))
		}
	}
}

// P12.1: a Tally: what its shards, so many and no more, have together.
func TestOfTally(t *testing.T) {
	m := cell.New()
	for i := range 20 {
		m.Force(i, cell.Value{N: 1 << (2 * i)})
	}
	want := int64(0)
	for i, param := range params(api.Tally) {
		want += 1 << (2 * i)
		if v := of(t, api.Tally, param, m); !is(v, counts(api.Tally, want)) {
			t.Errorf("Of %d shards: %+v; want %d", param, v, want)
		}
	}
	for _, n := range []int64{0, 1, api.MaxTotal, math.MaxInt64} {
		m = cell.New()
		m.Force(2, cell.Value{N: n})
		if v := of(t, api.Tally, 3, m); !is(v, counts(api.Tally, n)) {
			t.Errorf("Of: %+v; want %d", v, n)
		}
	}
}

// P12.1: a Net: how many went out, at all its places; those under way have passed gates, and don't count.
func TestOfNet(t *testing.T) {
	for _, param := range params(api.Net) {
		n, _ := net.New(param)
		m := cell.New()
		for i := range n.Out(0) {
			m.Force(i, cell.Value{N: 1 << 40})
		}
		if v := of(t, api.Net, param, m); !is(v, counts(api.Net, 0)) {
			t.Errorf("Of width %d: %+v", param, v)
		}
		want := int64(0)
		for place := range param {
			m.Force(n.Out(place), cell.Value{N: 1 << (2 * place)})
			want += 1 << (2 * place)
			if v := of(t, api.Net, param, m); !is(v, counts(api.Net, want)) {
				t.Errorf("Of width %d: %+v; want %d", param, v, want)
			}
		}
		m.Force(n.Out(param), cell.Value{N: 1 << 50})
		if v := of(t, api.Net, param, m); !is(v, counts(api.Net, want)) {
			t.Errorf("Of width %d: %+v; want %d", param, v, want)
		}
	}
}

// P12.1, K3: what Of answers isn't what the memory has.
func TestOfApart(t *testing.T) {
	for _, kind := range []int{api.Multi, api.Kfifo} {
		m := cell.New()
		for i := 2; i < 5; i++ {
			m.Force(i, cell.Value{N: 1, L: vals(int64(i))})
		}
		before := m.Clone()
		v := of(t, kind, 16, m)
		clear(v.Items[:cap(v.Items)])
		if !alike(m, before) || !is(of(t, kind, 16, m), holds(kind, vals(2, 3, 4)...)) {
			t.Errorf("Of(%d): the answer is the memory's", kind)
		}
		v = of(t, kind, 16, m)
		m.Force(3, cell.Value{})
		if !is(v, holds(kind, vals(2, 3, 4)...)) {
			t.Errorf("Of(%d): %+v behind a write", kind, v)
		}
	}
}

// P12.1: Same: another Kind, another N, fewer items, the same items in another order; nil and empty are one and the same.
func TestSame(t *testing.T) {
	zero, minus := pri(0), pri(math.Copysign(0, -1))
	for _, c := range []struct {
		v, w value.Value
		want bool
	}{
		{value.Value{}, value.Value{}, true},
		{value.Value{Kind: 9, N: -4}, value.Value{Kind: 9, N: -4}, true},
		{counts(api.Tally, 7), counts(api.Tally, 7), true},
		{counts(api.Tally, 7), counts(api.Net, 7), false},
		{counts(api.Tally, 7), counts(api.Tally, 8), false},
		{counts(api.Tally, math.MinInt64), counts(api.Tally, math.MaxInt64), false},
		{holds(api.Multi), value.Value{Kind: api.Multi, Items: []pile.Item{}}, true},
		{holds(api.Multi), holds(api.Kfifo), false},
		{holds(api.Kfifo, vals(1, 2, 1)...), holds(api.Kfifo, vals(1, 2, 1)...), true},
		{holds(api.Kfifo, vals(1, 2, 1)...), holds(api.Multi, vals(1, 2, 1)...), false},
		{holds(api.Kfifo, vals(1, 2, 1)...), value.Value{Kind: api.Kfifo, Items: vals(1, 2, 1), N: 1}, false},
		{holds(api.Kfifo, vals(1, 2, 1)...), holds(api.Kfifo, vals(1, 2)...), false},
		{holds(api.Kfifo, vals(1, 2, 1)...), holds(api.Kfifo, vals(2, 1)...), false},
		{holds(api.Kfifo, vals(1, 2, 1)...), holds(api.Kfifo, vals(1, 1, 2)...), false},
		{holds(api.Kfifo, vals(1, 2, 1)...), holds(api.Kfifo), false},
		{holds(api.Multi, zero), holds(api.Multi, minus), false},
		{holds(api.Multi, zero), holds(api.Multi, vals(1)...), false},
		{holds(api.Multi, pri(1)), holds(api.Multi, pri(2)), false},
		{holds(api.Multi, pri(math.Inf(1))), holds(api.Multi, pri(math.Inf(-1))), false},
		{holds(api.Multi, pri(math.Inf(1))), holds(api.Multi, pri(math.NaN())), false},
	} {
		if c.v.Same(c.w) != c.want || c.w.Same(c.v) != c.want || !c.v.Same(c.v) || !c.w.Same(c.w) {
			t.Errorf("%+v and %+v: the same: %v", c.v, c.w, !c.want)
		}
	}
	for _, f := range nans() { // whatever their bits are
		for _, g := range nans() {
			v, w := holds(api.Kfifo, pri(1), pri(f), pri(2)), holds(api.Kfifo, pri(1), pri(g), pri(2))
			if !v.Same(w) {
				t.Errorf("%x and %x aren't the same", math.Float64bits(f), math.Float64bits(g))
			}
		}
	}
}

// after: After's answer; v stays as it is, and whatever becomes of v, or of the answer, doesn't become of the other one.
func after(t *testing.T, v value.Value, o op.Op, a op.Answer, param int) (value.Value, bool) {
	t.Helper()
	room := make([]pile.Item, len(v.Items)+3) // nothing is written behind v's items either
	copy(room, v.Items)
	given := v
	given.Items = room[:len(v.Items)]
	w, ok := given.After(o, a, param)
	if !is(given, v) || !slices.EqualFunc(room[len(v.Items):], make([]pile.Item, 3), exact) {
		t.Fatalf("After(%+v, %+v, %d) changed %+v: %+v", o, a, param, v, room)
	}
	kept := slices.Clone(w.Items)
	clear(room)
	if !slices.EqualFunc(w.Items, kept, exact) {
		t.Fatalf("After(%+v, %+v, %d) of %+v: the answer is v's", o, a, param, v)
	}
	return w, ok
}

// asked: After's answer is this.
func asked(t *testing.T, v value.Value, o op.Op, a op.Answer, param int, want value.Value, ok bool) {
	t.Helper()
	if w, got := after(t, v, o, a, param); !is(w, want) || got != ok {
		t.Errorf("%+v.After(%+v, %+v, %d): %+v, %v; want %+v, %v", v, o, a, param, w, got, want, ok)
	}
}

// can, cannot: it can be so answered, and this is what it holds then; or it can't, and v is answered.
func can(t *testing.T, v value.Value, o op.Op, a op.Answer, param int, want value.Value) {
	t.Helper()
	asked(t, v, o, a, param, want, true)
}

func cannot(t *testing.T, v value.Value, o op.Op, a op.Answer, param int) {
	t.Helper()
	asked(t, v, o, a, param, v, false)
}

func does(kind int, x pile.Item) op.Op {
	return op.Op{Kind: kind, Item: x, Draw: [2]int{math.MinInt, 77}}
}

// got: an answer that is Ok, with an item.
func got(x pile.Item) op.Answer {
	return op.Answer{Ok: true, Item: x}
}

func val(n int64) pile.Item {
	return pile.Item{Val: n}
}

// P12.1: the example.
func TestExample(t *testing.T) {
	can(t, holds(api.Kfifo, vals(1, 2, 1)...), does(op.Deq, pile.Item{}), got(val(1)), 1, holds(api.Kfifo, vals(2, 1)...))
}

// P12.1: an operation at another kind than its own, and one that there is none of, can't be answered, Ok or not; the parameter may be any.
func TestAfterOtherKinds(t *testing.T) {
	own := map[int]int{op.Insert: api.Multi, op.Delete: api.Multi, op.Enq: api.Kfifo, op.Deq: api.Kfifo, op.Add: api.Tally, op.Sum: api.Tally, op.Next: api.Net}
	for _, kind := range []int{0, 1, 2, 3, 4, 5, -1, 1 << 32, math.MinInt, math.MaxInt} {
		v := value.Value{Kind: kind, Items: vals(0, 1, 2), N: 5}
		for _, o := range []int{0, 1, 2, 3, 4, 5, 6, 7, 8, -1, 1 << 32, 1<<32 + 1, math.MinInt, math.MaxInt} {
			if k, some := own[o]; some && k == kind {
				if _, ok := after(t, v, does(o, val(0)), got(val(0)), 1); !ok {
					t.Errorf("operation %d of kind %d can't be answered", o, kind)
				}
				continue
			}
			for _, param := range []int{1, 16, 0, -1, 1000} {
				cannot(t, v, does(o, val(0)), got(val(0)), param)
				cannot(t, v, does(o, val(0)), op.Answer{}, param)
			}
		}
	}
}

// P12.1: what isn't Ok changes nothing, whatever is there, and whatever its answer says besides; of an Add, a Sum, a Next it can't be.
func TestAfterNotOk(t *testing.T) {
	for _, a := range []op.Answer{{}, {Item: val(1)}, {Item: val(77), N: 5}} {
		for _, l := range [][]pile.Item{nil, vals(1), vals(0, 1, 2)} {
			for _, param := range []int{1, 2, 16, 0, -1} {
				for _, o := range []int{op.Insert, op.Delete} {
					can(t, holds(api.Multi, l...), does(o, val(1)), a, param, holds(api.Multi, l...))
				}
				for _, o := range []int{op.Enq, op.Deq} {
					can(t, holds(api.Kfifo, l...), does(o, val(1)), a, param, holds(api.Kfifo, l...))
				}
			}
		}
		for _, n := range []int64{0, 5, math.MaxInt64} {
			cannot(t, counts(api.Tally, n), does(op.Add, val(1)), a, 2)
			cannot(t, counts(api.Tally, n), does(op.Sum, val(1)), a, 2)
			cannot(t, counts(api.Net, n), does(op.Next, val(1)), a, 2)
		}
	}
}

// P12.1: an Insert: its item, made canonical, more, in order; the answer's isn't looked at.
func TestAfterInsert(t *testing.T) {
	l := rising()
	for miss := range l {
		var rest, all []pile.Item
		for k, f := range l {
			if all = append(all, pri(f)); k != miss {
				rest = append(rest, pri(f))
			}
		}
		for _, a := range []op.Answer{got(pri(l[miss])), got(val(77)), {Ok: true, N: 9}} {
			can(t, holds(api.Multi, rest...), does(op.Insert, pri(l[miss])), a, 1, holds(api.Multi, all...))
		}
		twice := slices.Insert(slices.Clone(all), miss, all[miss])
		can(t, holds(api.Multi, all...), does(op.Insert, pri(l[miss])), got(pri(l[miss])), 16, holds(api.Multi, twice...))
		can(t, holds(api.Multi), does(op.Insert, pri(l[miss])), got(pri(l[miss])), 1, holds(api.Multi, all[miss]))
	}
	for _, f := range nans() {
		x := pile.Item{Pri: f, Val: 2}
		nan := func(n int64) pile.Item { return pile.Item{Pri: bits(canonBits), Val: n} }
		can(t, holds(api.Multi), does(op.Insert, x), got(x), 1, holds(api.Multi, nan(2)))
		can(t, holds(api.Multi, pri(math.Inf(1)), nan(1), nan(2), nan(3)), does(op.Insert, x), got(x), 1, holds(api.Multi, pri(math.Inf(1)), nan(1), nan(2), nan(2), nan(3)))
	}
	// of one priority by values
	can(t, holds(api.Multi, vals(math.MinInt64, 0, math.MaxInt64)...), does(op.Insert, val(-1)), got(val(-1)), 1, holds(api.Multi, vals(math.MinInt64, -1, 0, math.MaxInt64)...))
	can(t, value.Value{Kind: api.Multi, N: 6}, does(op.Insert, val(1)), got(val(1)), 1, value.Value{Kind: api.Multi, N: 6, Items: vals(1)})
}

// P12.1: an Enq: its item, made canonical, behind all others; the answer's isn't looked at.
func TestAfterEnq(t *testing.T) {
	for _, f := range slices.Concat(rising(), nans()) {
		x := pile.Item{Pri: f, Val: -3}
		can(t, holds(api.Kfifo), does(op.Enq, x), got(x), 1, holds(api.Kfifo, canon(x)))
		can(t, holds(api.Kfifo, vals(5, 4, 4)...), does(op.Enq, x), got(x), 1, holds(api.Kfifo, append(vals(5, 4, 4), canon(x))...))
		can(t, holds(api.Kfifo, canon(x)), does(op.Enq, x), got(val(9)), 16, holds(api.Kfifo, canon(x), canon(x)))
	}
}

// P12.1: a Delete: the first item that is the same as the answer's goes, wherever it is, and whatever the parameter; the operation's isn't looked at. It isn't there: it can't be.
func TestAfterDelete(t *testing.T) {
	l := vals(1, 2, 2, 3, 5)
	for _, param := range []int{1, 16, 0, -1} {
		for _, o := range []op.Op{does(op.Delete, val(1)), does(op.Delete, pri(math.NaN()))} {
			can(t, holds(api.Multi, l...), o, got(val(1)), param, holds(api.Multi, vals(2, 2, 3, 5)...))
			can(t, holds(api.Multi, l...), o, got(val(2)), param, holds(api.Multi, vals(1, 2, 3, 5)...))
			can(t, holds(api.Multi, l...), o, got(val(5)), param, holds(api.Multi, vals(1, 2, 2, 3)...))
			can(t, holds(api.Multi, val(1)), o, got(val(1)), param, holds(api.Multi))
			for _, x := range []pile.Item{val(0), val(4), val(6), pri(1), {Pri: math.Copysign(0, -1), Val: 1}, {Pri: math.NaN(), Val: 1}} {
				cannot(t, holds(api.Multi, l...), o, got(x), param)
				cannot(t, holds(api.Multi), o, got(x), param)
			}
		}
	}
}

// P12.1: of zeros, infinities and NaN of any bits the one that is the same goes, of a Delete and of a Deq.
func TestAfterPriorities(t *testing.T) {
	var all []pile.Item
	for _, f := range rising() {
		all = append(all, pri(f))
	}
	for _, c := range []struct{ kind, o int }{{api.Multi, op.Delete}, {api.Kfifo, op.Deq}} {
		for k, x := range all {
			rest := slices.Delete(slices.Clone(all), k, k+1)
			can(t, holds(c.kind, all...), does(c.o, val(4)), got(x), len(all), holds(c.kind, rest...))
			cannot(t, holds(c.kind, rest...), does(c.o, x), got(x), len(all))
		}
		for _, f := range nans() {
			for _, g := range nans() {
				can(t, holds(c.kind, val(1), pri(f)), does(c.o, val(4)), got(pri(g)), 2, holds(c.kind, val(1)))
			}
			cannot(t, holds(c.kind, val(1)), does(c.o, val(1)), got(pri(f)), 2)
		}
	}
}

// P12.1: a Deq: the first item that is the same as the answer's goes, if it is among the first ones, as many as the parameter says: the last one of these, and the one just behind.
func TestAfterDeq(t *testing.T) {
	l := vals(10, 11, 12, 13, 14)
	for k, x := range l {
		rest := slices.Delete(slices.Clone(l), k, k+1)
		for _, param := range []int{k + 1, k + 2, 5, 6, 16, 17, 1000, math.MaxInt} {
			if param > k {
				can(t, holds(api.Kfifo, l...), does(op.Deq, val(99)), got(x), param, holds(api.Kfifo, rest...))
			}
		}
		for _, param := range []int{k, k - 1, 0, -1, -16, math.MinInt} {
			cannot(t, holds(api.Kfifo, l...), does(op.Deq, x), got(x), param)
		}
	}
	for _, param := range []int{1, 5, 16, 0, -1, math.MaxInt, math.MinInt} {
		for _, x := range []pile.Item{val(9), val(15), val(0), pri(11)} {
			cannot(t, holds(api.Kfifo, l...), does(op.Deq, val(10)), got(x), param)
			cannot(t, holds(api.Kfifo), does(op.Deq, x), got(x), param)
		}
	}
	// those that are the same: the first one goes, and the first one is asked for
	same := holds(api.Kfifo, vals(3, 1, 2, 1, 2)...)
	can(t, same, does(op.Deq, val(0)), got(val(1)), 2, holds(api.Kfifo, vals(3, 2, 1, 2)...))
	can(t, same, does(op.Deq, val(0)), got(val(1)), 16, holds(api.Kfifo, vals(3, 2, 1, 2)...))
	cannot(t, same, does(op.Deq, val(0)), got(val(1)), 1)
	can(t, same, does(op.Deq, val(0)), got(val(2)), 3, holds(api.Kfifo, vals(3, 1, 1, 2)...))
	cannot(t, same, does(op.Deq, val(0)), got(val(2)), 2)
	can(t, holds(api.Kfifo, vals(1, 1, 1)...), does(op.Deq, val(0)), got(val(1)), 1, holds(api.Kfifo, vals(1, 1)...))
}

// P12.1: an Add: N is more by Val, which may be 0 to MaxAmount; beyond an int64 it wraps round.
func TestAfterAdd(t *testing.T) {
	for _, n := range []int64{0, 1, 3, 1 << 50, -5, math.MinInt64, math.MaxInt64 - api.MaxAmount} {
		for _, more := range []int64{0, 1, 4, api.MaxAmount - 1, api.MaxAmount} {
			for _, a := range []op.Answer{{Ok: true}, {Ok: true, N: 99, Item: val(5)}} {
				can(t, counts(api.Tally, n), does(op.Add, pile.Item{Pri: math.NaN(), Val: more}), a, 1, counts(api.Tally, n+more))
			}
		}
		for _, more := range []int64{-1, api.MaxAmount + 1, math.MinInt64, math.MaxInt64} {
			cannot(t, counts(api.Tally, n), does(op.Add, val(more)), op.Answer{Ok: true}, 1)
			cannot(t, counts(api.Tally, n), does(op.Add, val(more)), op.Answer{}, 1)
		}
	}
	can(t, counts(api.Tally, math.MaxInt64), does(op.Add, val(0)), op.Answer{Ok: true}, 1, counts(api.Tally, math.MaxInt64))
	can(t, counts(api.Tally, math.MaxInt64), does(op.Add, val(1)), op.Answer{Ok: true}, 16, counts(api.Tally, math.MinInt64))
	can(t, counts(api.Tally, math.MaxInt64), does(op.Add, val(api.MaxAmount)), op.Answer{Ok: true}, 1, counts(api.Tally, math.MinInt64+api.MaxAmount-1))
}

// P12.1: a Sum changes nothing, whatever it answers; a Next is one more, whatever it answers, and beyond an int64 it wraps round.
func TestAfterSumAndNext(t *testing.T) {
	for _, n := range []int64{0, 1, 7, 1 << 50, -1, math.MinInt64, math.MaxInt64 - 1} {
		for _, a := range []op.Answer{{Ok: true}, {Ok: true, N: n}, {Ok: true, N: -77, Item: val(3)}} {
			for _, param := range []int{1, 16, 0, -1} {
				can(t, counts(api.Tally, n), does(op.Sum, val(-5)), a, param, counts(api.Tally, n))
				can(t, counts(api.Net, n), does(op.Next, val(-5)), a, param, counts(api.Net, n+1))
			}
		}
	}
	can(t, counts(api.Net, math.MaxInt64), does(op.Next, val(0)), op.Answer{Ok: true}, 1, counts(api.Net, math.MinInt64))
}

// P12.1, K3: v goes its own way behind After, whatever is answered; so do two answers.
func TestAfterApart(t *testing.T) {
	for _, c := range []struct {
		kind int
		o    op.Op
		a    op.Answer
	}{
		{api.Multi, does(op.Insert, val(0)), got(val(0))}, {api.Multi, does(op.Insert, val(9)), got(val(9))}, {api.Multi, does(op.Insert, val(9)), op.Answer{}},
		{api.Multi, does(op.Delete, val(0)), got(val(1))}, {api.Multi, does(op.Delete, val(0)), got(val(3))}, {api.Multi, does(op.Delete, val(0)), got(val(9))},
		{api.Kfifo, does(op.Enq, val(9)), got(val(9))}, {api.Kfifo, does(op.Deq, val(9)), got(val(1))}, {api.Kfifo, does(op.Deq, val(9)), got(val(3))},
		{api.Kfifo, does(op.Deq, val(9)), op.Answer{}}, {api.Tally, does(op.Sum, val(9)), op.Answer{Ok: true}}, {api.Net, does(op.Sum, val(9)), op.Answer{}},
	} {
		v := holds(c.kind, make([]pile.Item, 3, 9)...)
		v.Items = v.Items[:copy(v.Items, vals(1, 2, 3))]
		a, _ := v.After(c.o, c.a, 2)
		b, _ := v.After(c.o, c.a, 2)
		kept := slices.Clone(b.Items)
		clear(a.Items[:cap(a.Items)])
		if !slices.EqualFunc(b.Items, kept, exact) || !is(v, holds(c.kind, vals(1, 2, 3)...)) {
			t.Errorf("%+v, %+v: %v, %v", c.o, c.a, v.Items, b.Items)
		}
		v.Items[0] = val(-1)
		v.Items = append(v.Items, val(-2))
		if !slices.EqualFunc(b.Items, kept, exact) {
			t.Errorf("%+v, %+v: %v behind what became of v", c.o, c.a, b.Items)
		}
	}
}

// anyItem: of few, so that some are the same.
func anyItem(seed *uint64) pile.Item {
	l := slices.Concat(rising(), nans())
	return pile.Item{Pri: l[next(seed)%uint64(len(l))], Val: int64(next(seed)%2) - 1}
}

func anyDraw(seed *uint64) int {
	draws := []int{0, 0, 1, 2, -1, 5, 9, math.MinInt, math.MaxInt, math.MaxInt - 4}
	return draws[next(seed)%uint64(len(draws))]
}

// anyOp: of a kind; of so many in a hundred one by which something comes.
func anyOp(seed *uint64, kind int, come uint64) op.Op {
	l := op.Of(kind)
	o := op.Op{Kind: l[0], Draw: [2]int{anyDraw(seed), anyDraw(seed)}}
	if next(seed)%100 >= come {
		o.Kind = l[len(l)-1]
	}
	if o.Item = anyItem(seed); o.Kind == op.Add {
		o.Val = []int64{0, 1, 2, 1000, api.MaxAmount}[next(seed)%5]
	}
	return o
}

func machine(t *testing.T, kind, param int) (s op.Machine) {
	t.Helper()
	var e api.Errno
	switch kind {
	case api.Multi:
		s, e = multi.New(param)
	case api.Kfifo:
		s, e = kfifo.New(param)
	case api.Tally:
		s, e = tally.New(param)
	case api.Net:
		s, e = net.New(param)
	}
	if e != api.OK {
		t.Fatalf("kind %d, parameter %d: %d", kind, param, e)
	}
	return s
}

// A run is operations under way at one structure.
type run struct {
	kind, param int
	m           *cell.Memory
	frames      []op.Frame
	done        []bool
	moved       int // how often a Deq's item wasn't the first one of those that are the same
}

// begun: these have been done, one by one, and those are under way.
func begun(t *testing.T, kind, param int, ahead, l []op.Op) run {
	t.Helper()
	r := run{kind: kind, param: param, m: cell.New(), done: make([]bool, len(l))}
	for _, o := range ahead {
		if _, done := op.Alone(machine(t, kind, param), r.m, o, 100); !done {
			t.Fatalf("%+v doesn't end", o)
		}
	}
	for _, o := range l {
		r.frames = append(r.frames, op.Frame{Op: o})
	}
	return r
}

// fork: a copy, which goes its own way.
func (r run) fork() run {
	r.m, r.frames, r.done = r.m.Clone(), slices.Clone(r.frames), slices.Clone(r.done)
	return r
}

// step: of operation k. P12.2 is asked.
func (r *run) step(t *testing.T, s op.Machine, k int) op.Answer {
	t.Helper()
	v := of(t, r.kind, r.param, r.m)
	o := r.frames[k].Op
	a, done := s.Step(r.m, &r.frames[k])
	r.done[k] = done
	w := of(t, r.kind, r.param, r.m)
	if !done {
		if !is(v, w) {
			t.Fatalf("kind %d of %d: %+v: a step that isn't the last one: %+v, then %+v", r.kind, r.param, o, v, w)
		}
		return a
	}
	says, ok := v.After(o, a, r.param)
	switch {
	case !ok:
		t.Fatalf("kind %d of %d: %+v: %+v can't be answered behind %+v", r.kind, r.param, o, a, v)
	case is(says, w):
	case o.Kind != op.Deq || !a.Ok || !r.goes(v, w, a.Item):
		t.Fatalf("kind %d of %d: %+v: %+v: %+v, then %+v; After says %+v", r.kind, r.param, o, a, v, w, says)
	default:
		r.moved++
	}
	return a
}

// goes: one of the items that are the same as x has gone, which was among the first k.
func (r *run) goes(v, w value.Value, x pile.Item) bool {
	for k, y := range v.Items[:min(r.param, len(v.Items))] {
		if exact(x, y) && slices.EqualFunc(slices.Delete(slices.Clone(v.Items), k, k+1), w.Items, exact) {
			return true
		}
	}
	return false
}

// every: all ways in which the operations may go past one another; how many there are.
func every(t *testing.T, s op.Machine, r run) int {
	t.Helper()
	ways := 0
	for k := range r.frames {
		if !r.done[k] {
			then := r.fork()
			then.step(t, s, k)
			ways += every(t, s, then)
		}
	}
	return max(ways, 1)
}

// P12.2: whichever way a few operations go past one another, at each kind.
func TestEveryWay(t *testing.T) {
	drawn := func(kind int, x pile.Item, a, b int) op.Op { return op.Op{Kind: kind, Item: x, Draw: [2]int{a, b}} }
	in, out := func(n int64, d int) op.Op { return drawn(op.Insert, val(n), d, 0) }, drawn(op.Delete, pile.Item{}, 0, 1)
	enq, deq := func(n int64, d int) op.Op { return drawn(op.Enq, val(n), d, 0) }, func(d int) op.Op { return drawn(op.Deq, pile.Item{}, d, 0) }
	add, sum, tok := drawn(op.Add, val(5), 0, 0), drawn(op.Sum, pile.Item{}, 0, 0), func(d int) op.Op { return drawn(op.Next, pile.Item{}, d, 0) }
	for _, c := range []struct {
		kind, param int
		ahead, l    []op.Op
		ways        int // at least
	}{
		{api.Multi, 2, nil, []op.Op{in(1, 0), in(1, 0), out}, 100},
		{api.Multi, 2, []op.Op{in(2, 0), in(2, 1)}, []op.Op{out, out}, 20},
		{api.Multi, 1, []op.Op{in(2, 0), in(3, 0)}, []op.Op{out, in(1, 0)}, 10},
		{api.Kfifo, 1, nil, []op.Op{enq(1, 0), deq(0)}, 10},
		{api.Kfifo, 2, []op.Op{enq(1, 0), enq(1, 0), enq(1, 0)}, []op.Op{deq(0), deq(1)}, 70},
		{api.Kfifo, 2, []op.Op{enq(1, 1), enq(2, 0)}, []op.Op{deq(0), enq(3, 1)}, 100},
		{api.Tally, 2, nil, []op.Op{add, add, sum}, 90},
		{api.Net, 1, nil, []op.Op{tok(0), tok(1), tok(2)}, 6},
		{api.Net, 2, nil, []op.Op{tok(0), tok(1), tok(1)}, 90},
		{api.Net, 4, []op.Op{tok(3)}, []op.Op{tok(0), tok(2)}, 70},
	} {
		if ways := every(t, machine(t, c.kind, c.param), begun(t, c.kind, c.param, c.ahead, c.l)); ways < c.ways {
			t.Errorf("kind %d, parameter %d, %v: %d ways", c.kind, c.param, c.l, ways)
		}
	}
}

// P12.2: up to six operations at a time, with any picks among them, at each kind with each parameter.
func TestAnyPicks(t *testing.T) {
	seed := uint64(31)
	for _, kind := range kinds() {
		moved, refused := 0, 0
		for _, param := range params(kind) {
			s, r := machine(t, kind, param), begun(t, kind, param, nil, nil)
			r.frames, r.done = make([]op.Frame, 6), slices.Repeat([]bool{true}, 6)
			for round := range 3000 {
				i := int(next(&seed) % 6)
				if r.done[i] {
					r.frames[i] = op.Frame{Op: anyOp(&seed, kind, []uint64{50, 80, 20}[round/1000])}
				}
				if a := r.step(t, s, i); r.done[i] && !a.Ok {
					refused++
				}
			}
			moved += r.moved
		}
		if kind == api.Kfifo && moved == 0 || (kind <= api.Kfifo) != (refused > 0) {
			t.Errorf("kind %d: %d weren't the first of the same ones, %d weren't Ok", kind, moved, refused)
		}
	}
}

// P12.2: items that are the same, of a Kfifo: which of them goes hangs on the slots; what After says has the same items, in another order at most.
func TestSameItems(t *testing.T) {
	q := machine(t, api.Kfifo, 3)
	r := begun(t, api.Kfifo, 3, []op.Op{
		{Kind: op.Enq, Item: val(1), Draw: [2]int{1}}, {Kind: op.Enq, Item: val(2), Draw: [2]int{2}}, {Kind: op.Enq, Item: val(1), Draw: [2]int{0}},
	}, []op.Op{{Kind: op.Deq}})
	v := of(t, api.Kfifo, 3, r.m)
	for !r.done[0] {
		r.step(t, q, 0)
	}
	w := of(t, api.Kfifo, 3, r.m)
	says, _ := v.After(op.Op{Kind: op.Deq}, got(val(1)), 3)
	if !is(v, holds(api.Kfifo, vals(1, 2, 1)...)) || !is(w, holds(api.Kfifo, vals(1, 2)...)) || !is(says, holds(api.Kfifo, vals(2, 1)...)) || r.moved != 1 {
		t.Errorf("%+v, then %+v; After says %+v", v, w, says)
	}
}

// told: what the chapter says of an operation that is Ok, or not, of a value, item by item.
func told(v value.Value, o op.Op, a op.Answer, param int) (value.Value, bool) {
	w := value.Value{Kind: v.Kind, N: v.N}
	switch {
	case o.Kind == op.Add && a.Ok && o.Val >= 0 && o.Val <= 1<<32:
		w.N += o.Val
	case o.Kind == op.Next && a.Ok:
		w.N++
	case o.Kind == op.Sum && a.Ok:
	case o.Kind >= op.Add:
		return v, false
	case !a.Ok:
		return v, true
	}
	gone := o.Kind != op.Delete && o.Kind != op.Deq
	for k, x := range v.Items {
		if !gone && x.Cmp(a.Item) == 0 && (o.Kind == op.Delete || k < param) {
			gone = true
			continue
		}
		w.Items = append(w.Items, x)
	}
	if !gone {
		return v, false
	}
	if o.Kind == op.Enq || o.Kind == op.Insert {
		w.Items = append(w.Items, canon(o.Item))
	}
	if o.Kind == op.Insert {
		slices.SortStableFunc(w.Items, func(x, y pile.Item) int { return x.Cmp(y) })
	}
	return w, true
}

// P12.1: any operations with any answers, one behind the other, beside what the chapter says.
func TestAfterAny(t *testing.T) {
	seed := uint64(33)
	for _, kind := range kinds() {
		for range 40 {
			v := counts(kind, 0)
			for range 80 {
				o, param := anyOp(&seed, kind, 60), int(next(&seed)%18)
				a := op.Answer{Ok: next(&seed)%8 > 0, Item: anyItem(&seed), N: int64(next(&seed) % 9)}
				if len(v.Items) > 0 && next(&seed)%2 == 0 {
					a.Item = v.Items[next(&seed)%uint64(len(v.Items))]
				}
				want, ok := told(v, o, a, param)
				asked(t, v, o, a, param, want, ok)
				v = want
			}
		}
	}
}
