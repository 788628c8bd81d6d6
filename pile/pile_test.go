package pile_test

import (
	"math"
	"slices"
	"testing"

	"carryover/pile"
)

const canonNone = uint64(0x7ff8000000000000)

// next: numbers that look like chance, the same ones each time.
func next(seed *uint64) uint64 {
	*seed = *seed*6364136223846793005 + 1442695040888963407
	x := *seed ^ *seed>>29
	return x * 0x9e3779b97f4a7c15 >> 16
}

// rising: priorities, each behind the one ahead of it.
func rising() []float64 {
	return []float64{
		math.Inf(-1), -math.MaxFloat64, -2.5, -1, -math.SmallestNonzeroFloat64, math.Copysign(0, -1),
		0, math.SmallestNonzeroFloat64, 1, 2.5, math.MaxFloat64, math.Inf(1), math.Float64frombits(canonNone),
	}
}

// nones: what is no number and isn't canonical.
func nones() []float64 {
	var out []float64
	for _, bits := range []uint64{0x7ff0000000000001, 0x7ff8000000000001, 0x7fffffffffffffff, 0xfff0000000000001, 0xfff8000000000000, 0xffffffffffffffff} {
		out = append(out, math.Float64frombits(bits))
	}
	return out
}

var vals = []int64{math.MinInt64, math.MinInt64 + 1, -1, 0, 1, math.MaxInt64 - 1, math.MaxInt64}

// risingItems: items, each behind the one ahead of it.
func risingItems() []pile.Item {
	var out []pile.Item
	for _, pri := range rising() {
		for _, val := range vals {
			out = append(out, pile.Item{Pri: pri, Val: val})
		}
	}
	return out
}

// rank is a priority's place in the order, told without the layers.
func rank(pri float64) uint64 {
	bits := math.Float64bits(pri)
	switch {
	case math.IsNaN(pri):
		return math.MaxUint64
	case bits < 1<<63:
		return 1<<63 + bits
	}
	return math.MaxUint64 - bits
}

func isAhead(x, y pile.Item) bool {
	if rank(x.Pri) != rank(y.Pri) {
		return rank(x.Pri) < rank(y.Pri)
	}
	return x.Val < y.Val
}

func canonical(x pile.Item) pile.Item {
	if math.IsNaN(x.Pri) {
		x.Pri = math.Float64frombits(canonNone)
	}
	return x
}

// alike: bit for bit, as == knows neither NaN nor the sign of 0.
func alike(x, y pile.Item) bool {
	return math.Float64bits(x.Pri) == math.Float64bits(y.Pri) && x.Val == y.Val
}

func allAlike(l, m []pile.Item) bool {
	return slices.EqualFunc(l, m, alike)
}

// model: a pile as a plain list that is always in order.
type model []pile.Item

func (m *model) put(x pile.Item) {
	x = canonical(x)
	at := 0
	for at < len(*m) && !isAhead(x, (*m)[at]) {
		at++
	}
	*m = slices.Insert(*m, at, x)
}

func modelOf(l []pile.Item) model {
	var m model
	for _, x := range l {
		m.put(x)
	}
	return m
}

func someItem(seed *uint64) pile.Item {
	pris := append(rising(), nones()...)
	x := pile.Item{Pri: pris[next(seed)%uint64(len(pris))], Val: vals[next(seed)%uint64(len(vals))]}
	if next(seed)%3 == 0 {
		x = pile.Item{Pri: math.Float64frombits(next(seed)<<16 ^ next(seed)), Val: int64(next(seed))}
	}
	return x
}

func someItems(seed *uint64, count int) []pile.Item {
	out := make([]pile.Item, count)
	for k := range out {
		out[k] = someItem(seed)
	}
	return out
}

// takeAll: what is taken, one behind the other.
func takeAll(p *pile.Pile) []pile.Item {
	var out []pile.Item
	for {
		x, ok := p.Take()
		if !ok {
			return out
		}
		out = append(out, x)
	}
}

// P4.1
func TestItemCanon(t *testing.T) {
	for _, x := range risingItems() {
		if got := x.Canon(); !alike(got, x) {
			t.Errorf("Canon %v: %v", x, got)
		}
	}
	for _, pri := range nones() {
		x := pile.Item{Pri: pri, Val: -7}
		if got := x.Canon(); math.Float64bits(got.Pri) != canonNone || got.Val != -7 {
			t.Errorf("Canon %016x: %016x, %d", math.Float64bits(pri), math.Float64bits(got.Pri), got.Val)
		}
		if math.Float64bits(x.Pri) != math.Float64bits(pri) {
			t.Error("Canon changes what it is asked of")
		}
	}
}

// P4.1, P4.2
func TestItemCmp(t *testing.T) {
	all := risingItems()
	for i, x := range all {
		for j, y := range all {
			if got := x.Cmp(y); got != min(max(i-j, -1), 1) {
				t.Fatalf("Cmp %v, %v: %d", x, y, got)
			}
		}
	}
	for _, f := range append(nones(), math.Float64frombits(canonNone)) {
		for _, g := range nones() {
			x, y := pile.Item{Pri: f, Val: 3}, pile.Item{Pri: g, Val: 3}
			if x.Cmp(y) != 0 || x.Cmp(pile.Item{Pri: g, Val: 4}) != -1 || x.Cmp(pile.Item{Pri: g, Val: 2}) != 1 {
				t.Errorf("Cmp %016x, %016x", math.Float64bits(f), math.Float64bits(g))
			}
		}
		if (pile.Item{Pri: f, Val: math.MinInt64}).Cmp(pile.Item{Pri: math.Inf(1), Val: math.MaxInt64}) != 1 {
			t.Errorf("%016x isn't behind inf", math.Float64bits(f))
		}
	}
}

// P4.2
func TestItemCmpThroughAThird(t *testing.T) {
	seed := uint64(1)
	all := someItems(&seed, 60)
	for _, x := range all {
		for _, y := range all {
			xy := x.Cmp(y)
			if xy != -y.Cmp(x) || (xy == 0) != alike(canonical(x), canonical(y)) || (xy < 0) != isAhead(x, y) {
				t.Fatalf("Cmp %v, %v: %d, %d", x, y, xy, y.Cmp(x))
			}
			for _, z := range all {
				if yz := y.Cmp(z); xy <= 0 && yz <= 0 && x.Cmp(z) != min(xy, yz) {
					t.Fatalf("Cmp %v, %v, %v", x, y, z)
				}
			}
		}
	}
}

func wantNone(t *testing.T, p *pile.Pile) {
	t.Helper()
	for range 2 {
		if x, ok := p.First(); ok || !alike(x, pile.Item{}) {
			t.Errorf("First of none: %v, %v", x, ok)
		}
		if x, ok := p.Take(); ok || !alike(x, pile.Item{}) {
			t.Errorf("Take of none: %v, %v", x, ok)
		}
		if p.Count() != 0 || len(p.All()) != 0 {
			t.Errorf("%d of none", p.Count())
		}
	}
}

// P4.1
func TestNoItems(t *testing.T) {
	wantNone(t, pile.New())
	wantNone(t, pile.New([]pile.Item{}...))
	wantNone(t, pile.New(nil...))
	if len(pile.Sorted(nil)) != 0 || len(pile.Sorted([]pile.Item{})) != 0 {
		t.Error("Sorted of none")
	}
	p := pile.New(pile.Item{Pri: 1})
	p.Take()
	wantNone(t, p)
	p.Put(pile.Item{Pri: 2, Val: 5})
	if x, ok := p.First(); !ok || !alike(x, pile.Item{Pri: 2, Val: 5}) || p.Count() != 1 {
		t.Errorf("First behind none: %v, %v", x, ok)
	}
}

// P4.1
func TestOneItem(t *testing.T) {
	for _, x := range append(risingItems(), pile.Item{Pri: nones()[4], Val: 8}) {
		p, q := pile.New(x), pile.New()
		q.Put(x)
		for _, r := range []*pile.Pile{p, q} {
			if y, ok := r.First(); !ok || !alike(y, canonical(x)) || r.Count() != 1 || !allAlike(r.All(), []pile.Item{canonical(x)}) {
				t.Errorf("%v alone: %v, %v, %d", x, y, ok, r.Count())
			}
			if y, ok := r.Take(); !ok || !alike(y, canonical(x)) {
				t.Errorf("Take of %v alone: %v, %v", x, y, ok)
			}
			wantNone(t, r)
		}
	}
}

// P4.1, P4.3: of those that are the same one goes at a time.
func TestTheSameMoreThanOnce(t *testing.T) {
	x := pile.Item{Pri: math.Copysign(0, -1), Val: 4}
	p := pile.New(x, x, x)
	for k := range 20 {
		p.Put(x)
		if p.Count() != 4+k {
			t.Fatalf("Count: %d", p.Count())
		}
	}
	for _, pri := range nones() {
		p.Put(pile.Item{Pri: pri, Val: 4})
	}
	for left := 22 + len(nones()); left >= len(nones()); left-- {
		if y, ok := p.Take(); !ok || !alike(y, x) || p.Count() != left {
			t.Fatalf("Take: %v, %v, %d left", y, ok, p.Count())
		}
	}
	for _, y := range takeAll(p) {
		if !alike(y, pile.Item{Pri: math.Float64frombits(canonNone), Val: 4}) {
			t.Errorf("Take: %v", y)
		}
	}
}

// P4.1, P4.3: the edges in some orders of coming, put or given at once.
func TestEdgesInOrder(t *testing.T) {
	want := risingItems()
	seed := uint64(2)
	for turn := range 20 {
		l := slices.Clone(want)
		switch turn {
		case 0:
		case 1:
			slices.Reverse(l)
		default:
			for k := range l {
				j := int(next(&seed) % uint64(k+1))
				l[k], l[j] = l[j], l[k]
			}
		}
		p, q := pile.New(l...), pile.New()
		for _, x := range l {
			q.Put(x)
		}
		if !allAlike(pile.Sorted(l), want) || !allAlike(p.All(), want) || !allAlike(q.All(), want) {
			t.Fatalf("turn %d: out of order", turn)
		}
		if p.Count() != len(want) || !allAlike(takeAll(p), want) || !allAlike(takeAll(q), want) {
			t.Fatalf("turn %d: taken out of order", turn)
		}
	}
}

// P4.1
func TestTheChaptersExample(t *testing.T) {
	want := []float64{math.Inf(-1), math.Copysign(0, -1), 0, math.Inf(1), math.Float64frombits(canonNone)}
	got := pile.Sorted([]pile.Item{{Pri: 0}, {Pri: math.Copysign(0, -1)}, {Pri: nones()[5]}, {Pri: math.Inf(-1)}, {Pri: math.Inf(1)}})
	for k, x := range got {
		if len(got) != len(want) || math.Float64bits(x.Pri) != math.Float64bits(want[k]) {
			t.Errorf("Sorted: %v", got)
		}
	}
}

// P4.1, P2
func TestSortedLeavesTheList(t *testing.T) {
	seed := uint64(3)
	for size := range 70 {
		l := someItems(&seed, size)
		before := slices.Clone(l)
		got := pile.Sorted(l)
		if !allAlike(got, modelOf(l)) {
			t.Fatalf("Sorted of %d: %v", size, got)
		}
		if !allAlike(l, before) {
			t.Fatalf("Sorted of %d changes the list", size)
		}
		for k := range got {
			got[k] = pile.Item{Pri: 99, Val: 99}
		}
		if !allAlike(l, before) {
			t.Fatalf("what Sorted answers of %d is the list's memory", size)
		}
	}
}

// P4.1, P2: a list that is handed in or out is no part of the pile.
func TestListsAreCopies(t *testing.T) {
	seed := uint64(4)
	for size := 1; size < 40; size++ {
		l := append(make([]pile.Item, 0, size+5), someItems(&seed, size)...)
		before := slices.Clone(l)
		p := pile.New(l...)
		if !allAlike(l, before) {
			t.Fatalf("New of %d changes the list", size)
		}
		want := modelOf(l)
		for k := range l {
			l[k] = pile.Item{Pri: -5, Val: int64(k)}
		}
		if !allAlike(p.All(), want) {
			t.Fatalf("a pile of %d hangs on the list it was made of", size)
		}
		first, second := p.All(), p.All()
		for k := range first {
			first[k] = pile.Item{Pri: -6, Val: int64(k)}
		}
		if !allAlike(second, want) || !allAlike(p.All(), want) || p.Count() != size {
			t.Fatalf("a pile of %d hangs on what All answered", size)
		}
		p.Put(pile.Item{Pri: 3, Val: 3})
		p.Take()
		if !allAlike(second, want) {
			t.Fatalf("what All answered of %d changes with the pile", size)
		}
	}
}

// P2: two piles of one list have nothing to do with each other.
func TestPilesStandAlone(t *testing.T) {
	seed := uint64(5)
	l := someItems(&seed, 30)
	p, q := pile.New(l...), pile.New(l...)
	takeAll(p)
	p.Put(pile.Item{Pri: -1})
	if q.Count() != 30 || !allAlike(q.All(), modelOf(l)) || p.Count() != 1 {
		t.Error("one pile changes the other")
	}
}

func wantModel(t *testing.T, p *pile.Pile, m model) {
	t.Helper()
	if p.Count() != len(m) {
		t.Fatalf("Count: %d, want %d", p.Count(), len(m))
	}
	x, ok := p.First()
	if ok != (len(m) > 0) || ok && !alike(x, m[0]) || !ok && !alike(x, pile.Item{}) {
		t.Fatalf("First: %v, %v", x, ok)
	}
	if !allAlike(p.All(), m) {
		t.Fatalf("All: %v, want %v", p.All(), m)
	}
}

// P4.1, P4.3: any calls, one behind the other.
func TestAnyCalls(t *testing.T) {
	seed := uint64(6)
	for round := range 150 {
		l := someItems(&seed, int(next(&seed)%12))
		p, m := pile.New(l...), modelOf(l)
		puts := 1 + next(&seed)%9
		for range 120 {
			if next(&seed)%10 < puts {
				x := someItem(&seed)
				p.Put(x)
				m.put(x)
			} else if x, ok := p.Take(); ok != (len(m) > 0) || ok && !alike(x, m[0]) || !ok && !alike(x, pile.Item{}) {
				t.Fatalf("round %d: Take: %v, %v", round, x, ok)
			} else if ok {
				m = m[1:]
			}
			wantModel(t, p, m)
		}
		if got := takeAll(p); !allAlike(got, m) {
			t.Fatalf("round %d: taken at last: %v, want %v", round, got, m)
		}
	}
}

// P4.3
func TestManyItems(t *testing.T) {
	seed := uint64(7)
	l := someItems(&seed, 20000)
	p := pile.New(l[:10000]...)
	for _, x := range l[10000:] {
		p.Put(x)
	}
	want := slices.Clone(l)
	for k := range want {
		want[k] = canonical(want[k])
	}
	slices.SortFunc(want, func(x, y pile.Item) int {
		if isAhead(x, y) {
			return -1
		}
		if isAhead(y, x) {
			return 1
		}
		return 0
	})
	if !allAlike(p.All(), want) || !allAlike(pile.Sorted(l), want) || !allAlike(takeAll(p), want) {
		t.Error("many items: out of order")
	}
}
