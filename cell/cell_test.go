package cell_test

import (
	"math"
	"slices"
	"testing"

	"carryover/api"
	"carryover/cell"
	"carryover/pile"
)

// next: numbers that look like chance, the same ones each time.
func next(seed *uint64) uint64 {
	*seed = *seed*6364136223846793005 + 1442695040888963407
	x := *seed ^ *seed>>29
	return x * 0x9e3779b97f4a7c15 >> 16
}

// pris: priorities that differ by their keys, each but the NaNs at the end, which are the same.
func pris() []float64 {
	return []float64{
		math.Inf(-1), -1, math.Copysign(0, -1), 0, math.SmallestNonzeroFloat64, 1, math.Inf(1),
		math.NaN(), math.Float64frombits(0x7ff0000000000001), math.Float64frombits(0xffffffffffffffff),
	}
}

// value: one with some items, at times none, at times many.
func value(seed *uint64) cell.Value {
	v := cell.Value{N: int64(next(seed) % 5)}
	count := int(next(seed) % 4)
	if next(seed)%50 == 0 {
		count = 200
	}
	for range count {
		v.L = append(v.L, pile.Item{Pri: pris()[next(seed)%10], Val: int64(next(seed)%3) - 1})
	}
	return v
}

// alike: the same, bit by bit; a nil list and an empty one are one.
func alike(v, w cell.Value) bool {
	return v.N == w.N && slices.EqualFunc(v.L, w.L, func(x, y pile.Item) bool {
		return math.Float64bits(x.Pri) == math.Float64bits(y.Pri) && x.Val == y.Val
	})
}

// hold: a value's copy, made without the layer.
func hold(v cell.Value) cell.Value {
	return cell.Value{N: v.N, L: append([]pile.Item{}, v.L...)}
}

// spoil: changes all that the list shares with others, the room behind it too.
func spoil(l []pile.Item) {
	whole := l[:cap(l)]
	for k := range whole {
		whole[k] = pile.Item{Pri: -77, Val: -77}
	}
}

// A written is a line of a model's record: the number of its write is its place, from 1 on.
type written struct {
	at int
	v  cell.Value
}

// A model is all writes that there were.
type model []written

func (r model) length() int {
	most := 0
	for _, w := range r {
		most = max(most, w.at+1)
	}
	return most
}

func (r model) read(i int) cell.Cell {
	for k, w := range slices.Backward(r) {
		if w.at == i {
			return cell.Cell{Ver: uint64(k + 1), Value: w.v}
		}
	}
	return cell.Cell{}
}

func (r *model) force(i int, v cell.Value) bool {
	if i < 0 || i > 999 {
		return false
	}
	*r = append(*r, written{i, hold(v)})
	return true
}

func (r *model) write(i int, ver uint64, v cell.Value) bool {
	return r.read(i).Ver == ver && r.force(i, v)
}

// check: a memory, held against what was written.
func check(t *testing.T, m *cell.Memory, r model, cells []int) {
	t.Helper()
	if m.Len() != r.length() || m.Clock() != uint64(len(r)) {
		t.Fatalf("Len %d, Clock %d; want %d, %d", m.Len(), m.Clock(), r.length(), len(r))
	}
	for _, i := range cells {
		got, want := m.Read(i), r.read(i)
		if got.Ver != want.Ver || !alike(got.Value, want.Value) {
			t.Fatalf("Read(%d): %v; want %v", i, got, want)
		}
	}
}

func every() []int {
	var out []int
	for i := -2; i <= api.MaxCells+1; i++ {
		out = append(out, i)
	}
	return append(out, math.MinInt, math.MaxInt)
}

// P5.1: a memory in which nothing was written.
func TestNew(t *testing.T) {
	check(t, cell.New(), nil, every())
	check(t, cell.New().Clone(), nil, every())
	m, n := cell.New(), cell.New()
	m.Force(4, cell.Value{N: 3})
	check(t, n, nil, every())
	check(t, cell.New(), nil, every())
}

// P5.1: the example.
func TestExample(t *testing.T) {
	m, v := cell.New(), cell.Value{N: 5, L: []pile.Item{{Pri: 2, Val: 1}}}
	if !m.Write(3, 0, v) || m.Read(3).Ver != 1 || m.Len() != 4 || m.Write(3, 0, v) || m.Clock() != 1 {
		t.Error("the example")
	}
}

// P5.1: which numbers are a cell's; a call that is refused changes nothing.
func TestNumbers(t *testing.T) {
	v := cell.Value{N: 9, L: []pile.Item{{Val: 4}}}
	for _, c := range []struct {
		i  int
		ok bool
	}{{0, true}, {1, true}, {998, true}, {999, true}, {1000, false}, {1001, false}, {-1, false}, {-1000, false}, {math.MinInt, false}, {math.MaxInt, false}} {
		for _, call := range []func(m *cell.Memory) bool{
			func(m *cell.Memory) bool { return m.Write(c.i, 0, v) },
			func(m *cell.Memory) bool { return m.Force(c.i, v) },
		} {
			m, want := cell.New(), model(nil)
			if call(m) != c.ok || want.force(c.i, v) != c.ok {
				t.Errorf("cell %d: want %v", c.i, c.ok)
			}
			check(t, m, want, every())
			m, want = cell.New(), model{{7, v}}
			m.Force(7, v)
			if call(m) != c.ok {
				t.Errorf("cell %d beside another: want %v", c.i, c.ok)
			}
			want.force(c.i, v)
			check(t, m, want, every())
		}
	}
}

// P5.1: a version that isn't the cell's, of cells that were never written, once, often, and behind Force.
func TestWriteVersion(t *testing.T) {
	m, r := cell.New(), model(nil)
	v, w := cell.Value{N: 1, L: []pile.Item{{Pri: 1}}}, cell.Value{N: 2}
	write := func(i int, ver uint64, v cell.Value, want bool) {
		t.Helper()
		if got := m.Write(i, ver, v); got != want || r.write(i, ver, v) != want {
			t.Errorf("Write(%d, %d): %v", i, ver, got)
		}
		check(t, m, r, every())
	}
	force := func(i int, v cell.Value) {
		t.Helper()
		if !m.Force(i, v) || !r.force(i, v) {
			t.Errorf("Force(%d)", i)
		}
		check(t, m, r, every())
	}
	write(5, 1, v, false)
	write(5, math.MaxUint64, v, false)
	write(5, 0, v, true)
	write(5, 0, w, false)
	write(5, 2, w, false)
	write(2, 1, w, false)
	write(2, 5, w, false)
	write(2, 0, w, true)
	write(5, 2, w, false)
	write(5, 1, w, true)
	write(5, 3, w, true)
	force(5, v)
	force(5, v)
	write(5, 4, w, false)
	write(5, 5, w, false)
	write(5, 6, cell.Value{}, true)
	write(999, 7, v, false)
	force(999, v)
	write(999, 8, w, true)
	write(1000, 0, v, false)
	write(1000, 9, v, false)
	write(-1, 0, v, false)
	write(-1, 9, v, false)
}

// P5.1: a cell that was written a zero value isn't one that was never written.
func TestWriteZero(t *testing.T) {
	m := cell.New()
	if !m.Write(6, 0, cell.Value{}) || m.Len() != 7 || m.Clock() != 1 || m.Read(6).Ver != 1 || m.Write(6, 0, cell.Value{}) {
		t.Error("a zero value")
	}
	if !m.Write(6, 1, cell.Value{L: []pile.Item{}}) || m.Read(6).Ver != 2 || len(m.Read(6).L) != 0 {
		t.Error("a value with an empty list")
	}
}

// P5.1: Clone and Same of values, items the same by their keys alone, a nil list and an empty one.
func TestSame(t *testing.T) {
	none, other := math.NaN(), math.Float64frombits(0xfff0000000000123)
	minus := math.Copysign(0, -1)
	one := func(pri float64, val int64) []pile.Item { return []pile.Item{{Pri: pri, Val: val}} }
	for _, c := range []struct {
		v, w cell.Value
		same bool
	}{
		{cell.Value{}, cell.Value{}, true},
		{cell.Value{}, cell.Value{L: []pile.Item{}}, true},
		{cell.Value{N: 1}, cell.Value{}, false},
		{cell.Value{N: math.MinInt64}, cell.Value{N: math.MinInt64}, true},
		{cell.Value{N: math.MinInt64}, cell.Value{N: 0}, false},
		{cell.Value{N: 1, L: one(1, 2)}, cell.Value{N: 1, L: one(1, 2)}, true},
		{cell.Value{N: 1, L: one(1, 2)}, cell.Value{N: 2, L: one(1, 2)}, false},
		{cell.Value{L: one(1, 2)}, cell.Value{L: one(1, 3)}, false},
		{cell.Value{L: one(1, 2)}, cell.Value{L: one(2, 2)}, false},
		{cell.Value{L: one(1, 2)}, cell.Value{}, false},
		{cell.Value{L: one(0, 0)}, cell.Value{}, false},
		{cell.Value{L: one(0, 2)}, cell.Value{L: one(minus, 2)}, false},
		{cell.Value{L: one(minus, 2)}, cell.Value{L: one(minus, 2)}, true},
		{cell.Value{L: one(none, 2)}, cell.Value{L: one(none, 2)}, true},
		{cell.Value{L: one(none, 2)}, cell.Value{L: one(other, 2)}, true},
		{cell.Value{L: one(none, 2)}, cell.Value{L: one(other, 3)}, false},
		{cell.Value{L: one(none, 2)}, cell.Value{L: one(math.Inf(1), 2)}, false},
		{cell.Value{L: []pile.Item{{Pri: 1, Val: 2}, {Pri: 3, Val: 4}}}, cell.Value{L: []pile.Item{{Pri: 3, Val: 4}, {Pri: 1, Val: 2}}}, false},
		{cell.Value{L: []pile.Item{{Pri: 1, Val: 2}, {Pri: 3, Val: 4}}}, cell.Value{L: []pile.Item{{Pri: 1, Val: 2}, {Pri: 3, Val: 4}}}, true},
		{cell.Value{L: []pile.Item{{Pri: 1, Val: 2}, {Pri: 3, Val: 4}}}, cell.Value{L: []pile.Item{{Pri: 1, Val: 2}}}, false},
		{cell.Value{L: []pile.Item{{Pri: 1, Val: 2}, {Pri: 3, Val: 4}}}, cell.Value{L: []pile.Item{{Pri: 1, Val: 2}, {Pri: 3, Val: 5}}}, false},
	} {
		v, w := hold(c.v), hold(c.w)
		if c.v.Same(c.w) != c.same || c.w.Same(c.v) != c.same {
			t.Errorf("%v, %v: want %v", c.v, c.w, c.same)
		}
		if !c.v.Same(c.v.Clone()) || !c.w.Clone().Same(c.w) {
			t.Errorf("%v, %v: a copy isn't the same", c.v, c.w)
		}
		if !alike(c.v, v) || !alike(c.w, w) {
			t.Errorf("%v, %v: Same has changed them", v, w)
		}
	}
}

// P5.1: Same, of values one of which was made of the other one.
func TestSameChanged(t *testing.T) {
	seed := uint64(5)
	for range 3000 {
		v := value(&seed)
		w := hold(v)
		if !v.Same(w) {
			t.Fatalf("%v isn't the same as itself", v)
		}
		if next(&seed)%2 == 0 || len(w.L) == 0 {
			w.N += int64(next(&seed)) | 1
		} else {
			k := next(&seed) % uint64(len(w.L))
			w.L[k].Val += int64(next(&seed)) | 1
		}
		if v.Same(w) || w.Same(v) {
			t.Fatalf("%v, %v are the same", v, w)
		}
	}
}

// P5.1: a value is kept as it was handed in, bit by bit, however many items it has.
func TestKept(t *testing.T) {
	var l []pile.Item
	for k, pri := range pris() {
		l = append(l, pile.Item{Pri: pri, Val: int64(-k)})
	}
	for _, n := range []int{0, 1, 61, 62, 63, 5000} {
		v := cell.Value{N: math.MaxInt64 - int64(n)}
		for k := range n {
			v.L = append(v.L, l[k%len(l)])
		}
		m := cell.New()
		if !m.Force(1, v) || !alike(m.Read(1).Value, v) || !alike(m.Clone().Read(1).Value, v) || !alike(v.Clone(), v) {
			t.Errorf("%d items aren't kept", n)
		}
		if !m.Write(1, 1, cell.Value{}) || !alike(m.Read(1).Value, cell.Value{}) {
			t.Errorf("%d items haven't gone", n)
		}
	}
}

// P5.1: each call, behind any calls, held against a record of all writes; copies among them.
func TestAnyCalls(t *testing.T) {
	seed := uint64(11)
	cells := []int{-1, 0, 1, 2, 3, 4, 998, 999, 1000}
	for range 60 {
		memories, models := []*cell.Memory{cell.New()}, []model{nil}
		for range 80 {
			k := int(next(&seed)) % len(memories)
			m, r := memories[k], &models[k]
			i, v := cells[next(&seed)%uint64(len(cells))], value(&seed)
			given := hold(v)
			switch next(&seed) % 8 {
			case 0:
				if m.Force(i, v) != r.force(i, v) {
					t.Fatalf("Force(%d)", i)
				}
			case 1:
				if len(memories) < 5 {
					memories, models = append(memories, m.Clone()), append(models, slices.Clone(*r))
				}
			default:
				ver := r.read(i).Ver
				if next(&seed)%4 == 0 {
					ver += next(&seed)%5 - 2
				}
				if m.Write(i, ver, v) != r.write(i, ver, v) {
					t.Fatalf("Write(%d, %d)", i, ver)
				}
			}
			if !alike(v, given) {
				t.Fatalf("what was handed in has changed: %v, %v", v, given)
			}
			for k, m := range memories {
				check(t, m, models[k], cells)
			}
		}
	}
}

// P5.1: all cells there may be, written downwards and upwards.
func TestAllCells(t *testing.T) {
	m, r := cell.New(), model(nil)
	for k := range 2 * api.MaxCells {
		i := k % api.MaxCells
		if k < api.MaxCells {
			i = api.MaxCells - 1 - k
		}
		v := cell.Value{N: int64(k), L: []pile.Item{{Val: int64(k)}}}
		if !m.Write(i, r.read(i).Ver, v) || !r.force(i, v) || m.Len() != api.MaxCells {
			t.Fatalf("cell %d", i)
		}
	}
	check(t, m, r, every())
}

// P5.2: a version is written once, a cell's versions rise, and with one version there is one value.
func TestVersions(t *testing.T) {
	seed := uint64(17)
	m := cell.New()
	type made struct {
		at int
		v  cell.Value
	}
	by, last := map[uint64]made{}, map[int]uint64{}
	for range 5000 {
		i, v := int(next(&seed)%7), value(&seed)
		before, clock := m.Read(i), m.Clock()
		var ok bool
		if next(&seed)%5 == 0 {
			ok = m.Force(i, v)
		} else {
			ok = m.Write(i, before.Ver+next(&seed)%4/3, v)
		}
		after := m.Read(i)
		if ok == (after.Ver == before.Ver) {
			t.Fatalf("%v: version %d behind %d", ok, after.Ver, before.Ver)
		}
		if ok {
			if _, there := by[after.Ver]; there || after.Ver <= last[i] || after.Ver != clock+1 || m.Clock() != clock+1 {
				t.Fatalf("cell %d: version %d behind %d, with clock %d", i, after.Ver, last[i], clock)
			}
			by[after.Ver], last[i] = made{i, hold(v)}, after.Ver
		}
		for j := range 8 {
			c := m.Read(j)
			w, there := by[c.Ver]
			if c.Ver != last[j] || there && w.at != j || !alike(c.Value, w.v) {
				t.Fatalf("cell %d: %v; want %v", j, c, w)
			}
		}
	}
}

// P5.2: the same value written again is a new version, and the elder one is no longer the cell's.
func TestVersionOfTheSame(t *testing.T) {
	m, v := cell.New(), cell.Value{N: 1}
	for k := range uint64(50) {
		if !m.Write(0, k, v) || m.Write(0, k, v) || m.Read(0).Ver != k+1 {
			t.Fatalf("version %d", k+1)
		}
	}
	if m.Write(0, 1, v) || m.Write(0, 49, v) || m.Clock() != 50 {
		t.Error("an elder version")
	}
}

// P5.3: what was handed in is changed afterwards, the room behind it too.
func TestHandedIn(t *testing.T) {
	for _, call := range []func(m *cell.Memory, v cell.Value) bool{
		func(m *cell.Memory, v cell.Value) bool { return m.Write(1, 0, v) },
		func(m *cell.Memory, v cell.Value) bool { return m.Force(1, v) },
	} {
		room := make([]pile.Item, 3, 10)
		v := cell.Value{N: 4, L: room}
		kept := hold(v)
		m := cell.New()
		call(m, v)
		if !alike(v, kept) {
			t.Error("the call has changed it")
		}
		spoil(room)
		v.N = 5
		if !alike(m.Read(1).Value, kept) {
			t.Error("it was kept")
		}
	}
}

// P5.3: one value in two cells, and in two memories.
func TestHandedInTwice(t *testing.T) {
	v := cell.Value{N: 4, L: []pile.Item{{Pri: 1, Val: 2}}}
	kept := hold(v)
	m, n := cell.New(), cell.New()
	m.Force(0, v)
	m.Force(1, m.Read(0).Value)
	n.Force(0, m.Read(0).Value)
	spoil(m.Read(0).L)
	m.Force(0, cell.Value{})
	if !alike(m.Read(1).Value, kept) || !alike(n.Read(0).Value, kept) || !alike(v, kept) {
		t.Error("cells share their items")
	}
}

// P5.3: what was read is changed, the room behind it too, and stays behind a write.
func TestWasRead(t *testing.T) {
	v := cell.Value{N: 4, L: []pile.Item{{Pri: 1, Val: 2}, {Pri: 3, Val: 4}, {Pri: 5, Val: 6}}}
	kept := hold(v)
	m := cell.New()
	m.Force(1, v)
	first, second := m.Read(1), m.Read(1)
	spoil(first.L)
	first.N, first.Ver = 9, 9
	if !alike(m.Read(1).Value, kept) || m.Read(1).Ver != 1 || !alike(second.Value, kept) || m.Clock() != 1 {
		t.Error("what was read is the memory's")
	}
	m.Force(1, cell.Value{N: 8, L: []pile.Item{{Val: 9}, {Val: 9}, {Val: 9}}})
	if !alike(second.Value, kept) || second.Ver != 1 {
		t.Error("a write has changed what was read")
	}
	zero := m.Read(0)
	zero.N, zero.Ver, zero.L = 7, 7, append(zero.L, pile.Item{Val: 7})
	if c := m.Read(0); c.Ver != 0 || c.N != 0 || len(c.L) != 0 {
		t.Error("a cell that was never written")
	}
}

// P5.3: a memory's copy, and the memory behind it, go their own way.
func TestMemoryClone(t *testing.T) {
	v := cell.Value{N: 4, L: []pile.Item{{Pri: 1, Val: 2}}}
	w := cell.Value{N: 5, L: []pile.Item{{Pri: 6, Val: 7}}}
	m := cell.New()
	m.Force(0, v)
	m.Force(2, v)
	first := model{{0, v}, {2, v}}
	n := m.Clone()
	check(t, n, first, every())
	n.Force(0, w)
	n.Force(3, w)
	check(t, m, first, every())
	m.Write(2, 2, w)
	m.Write(1, 0, w)
	m.Force(9, w)
	check(t, n, model{{0, v}, {2, v}, {0, w}, {3, w}}, every())
	check(t, m, model{{0, v}, {2, v}, {2, w}, {1, w}, {9, w}}, every())
	o := n.Clone()
	spoil(n.Read(2).L)
	spoil(o.Read(2).L)
	check(t, o, model{{0, v}, {2, v}, {0, w}, {3, w}}, every())
}

// P5.3: a value's copy, and the value, the room behind both too.
func TestValueClone(t *testing.T) {
	for _, n := range []int{0, 1, 3, 62} {
		room := make([]pile.Item, n, n+9)
		v := cell.Value{N: 4, L: room}
		kept := hold(v)
		w := v.Clone()
		if !alike(w, kept) || !alike(v, kept) {
			t.Errorf("%d items: no copy", n)
		}
		spoil(w.L)
		w.N = 5
		if !alike(v, kept) || len(v.L[:cap(v.L)]) != n+9 || v.L[:n+1][n] != (pile.Item{}) {
			t.Errorf("%d items: the copy is the value's", n)
		}
		w = v.Clone()
		w.L = append(w.L, pile.Item{Val: 1})
		spoil(room)
		if !alike(cell.Value{N: w.N, L: w.L[:n]}, kept) || w.L[n] != (pile.Item{Val: 1}) {
			t.Errorf("%d items: the value is the copy's", n)
		}
	}
}

// P5.1: a cell's parts are its value's.
func TestParts(t *testing.T) {
	c := cell.Cell{Ver: 3, Value: cell.Value{N: 4, L: []pile.Item{{Val: 5}}}}
	if c.N != 4 || c.L[0].Val != 5 || !c.Same(c.Clone()) || !c.Clone().Same(c.Value) {
		t.Error("a cell's parts")
	}
}
