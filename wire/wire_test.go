package wire_test

import (
	"math"
	"reflect"
	"slices"
	"testing"

	"carryover/api"
	"carryover/wire"
)

// next: numbers that look like chance, the same ones each time.
func next(seed *uint64) uint64 {
	*seed = *seed*6364136223846793005 + 1442695040888963407
	x := *seed ^ *seed>>29
	return x * 0x9e3779b97f4a7c15 >> 16
}

// widths: those that may be.
func widths() []int {
	return []int{1, 2, 4, 8, 16}
}

func made(t *testing.T, width int) wire.Plan {
	t.Helper()
	p, e := wire.Make(width)
	if e != api.OK {
		t.Fatalf("Make(%d): %d", width, e)
	}
	return p
}

// P10.1: which widths may be; beside an error the plan is a zero one.
func TestMakeWidths(t *testing.T) {
	others := []int{math.MinInt, math.MaxInt, 1 << 32, 1<<32 + 2, -1 << 32, 1 << 62}
	for width := -40; width <= 300; width++ {
		if !slices.Contains(widths(), width) {
			others = append(others, width)
		}
	}
	for _, width := range others {
		if p, e := wire.Make(width); e != api.ErrParam || p.Width != 0 || len(p.Gates) != 0 || len(p.Outs) != 0 {
			t.Errorf("Make(%d): %v, %d", width, p, e)
		}
	}
	for _, width := range widths() {
		if p := made(t, width); p.Width != width {
			t.Errorf("Make(%d): %v", width, p)
		}
	}
}

// P10.1: plans that were made by hand, as the chapter says it.
func TestMakeByHand(t *testing.T) {
	for _, c := range []struct {
		width int
		gates []wire.Gate
		outs  []int
	}{
		{1, nil, []int{0}},
		{2, []wire.Gate{{0, 1}}, []int{0, 1}},
		{4, []wire.Gate{{0, 1}, {2, 3}, {0, 3}, {1, 2}, {0, 1}, {3, 2}}, []int{0, 1, 3, 2}},
		{8, []wire.Gate{
			{0, 1}, {2, 3}, {0, 3}, {1, 2}, {0, 1}, {3, 2}, // 0, 1, 3, 2
			{4, 5}, {6, 7}, {4, 7}, {5, 6}, {4, 5}, {7, 6}, // 4, 5, 7, 6
			{0, 6}, {3, 5}, {0, 3}, {6, 5}, // of 0, 3 and 5, 6: 0, 3, 6, 5
			{1, 7}, {2, 4}, {1, 2}, {7, 4}, // of 1, 2 and 4, 7: 1, 2, 7, 4
			{0, 1}, {3, 2}, {6, 7}, {5, 4},
		}, []int{0, 1, 3, 2, 6, 7, 5, 4}},
	} {
		if p := made(t, c.width); !slices.Equal(p.Gates, c.gates) || !slices.Equal(p.Outs, c.outs) {
			t.Errorf("Make(%d): %v", c.width, p)
		}
	}
}

// every: every second one of a list.
func every(l []int, from int) (out []int) {
	for i, w := range l {
		if i%2 == from {
			out = append(out, w)
		}
	}
	return out
}

// merged, counted: what the chapter says of two lists, and of one: what comes of it, and its gates.
func merged(x, y []int) (out []int, gates []wire.Gate) {
	if len(x) == 1 {
		return []int{x[0], y[0]}, []wire.Gate{{A: x[0], B: y[0]}}
	}
	a, ahead := merged(every(x, 0), every(y, 1))
	b, between := merged(every(x, 1), every(y, 0))
	gates = slices.Concat(ahead, between)
	for i := range a {
		gates = append(gates, wire.Gate{A: a[i], B: b[i]})
		out = append(out, a[i], b[i])
	}
	return out, gates
}

func counted(l []int) ([]int, []wire.Gate) {
	if len(l) == 1 {
		return l, nil
	}
	x, first := counted(l[:len(l)/2])
	y, second := counted(l[len(l)/2:])
	out, last := merged(x, y)
	return out, slices.Concat(first, second, last)
}

// P10.1: the plan of each width, as the chapter says it; two that are made share nothing.
func TestMake(t *testing.T) {
	gates := []int{0, 1, 6, 24, 80}
	for k, width := range widths() {
		var wires []int
		for i := range width {
			wires = append(wires, i)
		}
		outs, want := counted(wires)
		for range 2 {
			p := made(t, width)
			if !slices.Equal(p.Gates, want) || !slices.Equal(p.Outs, outs) || len(p.Gates) != gates[k] {
				t.Errorf("Make(%d): %v; want %v, %v", width, p, want, outs)
			}
			for _, g := range p.Gates {
				if g.A == g.B || min(g.A, g.B) < 0 || max(g.A, g.B) >= width {
					t.Errorf("Make(%d): gate %v", width, g)
				}
			}
			if !slices.Equal(slices.Sorted(slices.Values(p.Outs)), wires) {
				t.Errorf("Make(%d): %v isn't each wire once", width, p.Outs)
			}
			clear(p.Gates)
			clear(p.Outs[:cap(p.Outs)])
		}
	}
}

// A walk takes tokens through a plan one by one, by turns, wherever each is.
type walk struct {
	p     wire.Plan
	gates []int64
	outs  []int64
}

// token: one comes upon a wire, and goes through to its end.
func (w *walk) token(at int) {
	for i, g := range w.p.Gates {
		if g.A != at && g.B != at {
			continue
		}
		at = g.A
		if w.gates[i]%2 == 1 {
			at = g.B
		}
		w.gates[i]++
	}
	w.outs[slices.Index(w.p.Outs, at)]++
}

// walked: so many upon each wire, in some order.
func walked(p wire.Plan, in []int64, seed *uint64) ([]int64, []int64) {
	w := walk{p: p, gates: make([]int64, len(p.Gates)), outs: make([]int64, p.Width)}
	var tokens []int
	for at, n := range in {
		tokens = append(tokens, slices.Repeat([]int{at}, int(n))...)
	}
	for len(tokens) > 0 {
		k := int(next(seed) % uint64(len(tokens)))
		w.token(tokens[k])
		tokens = slices.Delete(tokens, k, k+1)
	}
	return w.gates, w.outs
}

// passed: Pass's answer; P10.2 and P10.3 are asked, and that what was handed in stays.
func passed(t *testing.T, p wire.Plan, in []int64) ([]int64, []int64) {
	t.Helper()
	had, plan := slices.Clone(in), slices.Clone(p.Gates)
	gates, outs := p.Pass(in)
	if !slices.Equal(in, had) || !slices.Equal(p.Gates, plan) {
		t.Fatalf("Pass(%v) changed what it was handed: %v", had, in)
	}
	if len(gates) != len(p.Gates) || len(outs) != p.Width {
		t.Fatalf("Pass(%v): %v, %v", in, gates, outs)
	}
	total := int64(0)
	for _, n := range in[:min(len(in), p.Width)] {
		total += n
	}
	even(t, outs, total)
	return gates, outs
}

// even: what should be Even of so many.
func even(t *testing.T, l []int64, total int64) {
	t.Helper()
	sum := int64(0)
	for i, n := range l {
		sum += n
		if n < 0 || n > l[0] || n < l[0]-1 || i > 0 && n > l[i-1] {
			t.Fatalf("%v isn't Even of %d", l, total)
		}
	}
	if sum != total {
		t.Fatalf("%v are %d, not %d", l, sum, total)
	}
}

// P10.1 to P10.3: up to so many upon each wire, all that there is of that: what passes each gate, and goes out, is what tokens that go one by one do, in whichever order they come.
func TestPassAll(t *testing.T) {
	seed := uint64(11)
	for _, c := range []struct{ width, most int }{{1, 40}, {2, 12}, {4, 4}, {8, 1}} {
		p, in := made(t, c.width), make([]int64, c.width)
		for more := true; more; {
			gates, outs := passed(t, p, in)
			if a, b := walked(p, in, &seed); !slices.Equal(gates, a) || !slices.Equal(outs, b) {
				t.Fatalf("width %d: Pass(%v): %v, %v; want %v, %v", c.width, in, gates, outs, a, b)
			}
			more = false
			for i := range in {
				if in[i]++; in[i] <= int64(c.most) {
					more = true
					break
				}
				in[i] = 0
			}
		}
	}
}

// P10.1 to P10.3: any numbers upon any wires, few of them or many, up to 2^56.
func TestPassAny(t *testing.T) {
	seed := uint64(12)
	for _, width := range widths() {
		p := made(t, width)
		for round := range 1500 {
			in := make([]int64, width)
			for i := range in {
				if in[i] = int64(next(&seed) % 7); round%3 == 1 {
					in[i] *= int64(next(&seed) % 2)
				}
			}
			gates, outs := passed(t, p, in)
			if a, b := walked(p, in, &seed); !slices.Equal(gates, a) || !slices.Equal(outs, b) {
				t.Fatalf("width %d: Pass(%v): %v, %v; want %v, %v", width, in, gates, outs, a, b)
			}
			for i := range in {
				in[i] = []int64{0, 1, 1 << 56, 1<<56 - 1, int64(next(&seed)), int64(next(&seed) % 100)}[next(&seed)%6]
			}
			passed(t, p, in)
		}
	}
}

// P10.2: of tokens that all come upon one wire, whichever; of numbers that are all the same, and 2^56.
func TestPassEdges(t *testing.T) {
	for _, width := range widths() {
		p := made(t, width)
		for at := range width {
			for _, n := range []int64{0, 1, 2, 3, 7, 8, 15, 16, 17, 1<<56 - 1, 1 << 56} {
				in := make([]int64, width)
				in[at] = n
				passed(t, p, in)
				passed(t, p, slices.Repeat([]int64{n}, width))
				passed(t, p, in[:at+1])
			}
		}
		gates, outs := passed(t, p, slices.Repeat([]int64{1 << 56}, width))
		for _, n := range gates {
			if n != 1<<57 {
				t.Errorf("width %d: %v", width, gates)
				break
			}
		}
		if outs[0] != 1<<56 || outs[width-1] != 1<<56 {
			t.Errorf("width %d: %v", width, outs)
		}
	}
}

// P10.1: less numbers than wires: the others are 0; more: they don't count; none at all.
func TestPassFewerAndMore(t *testing.T) {
	seed := uint64(13)
	for _, width := range widths() {
		p := made(t, width)
		for long := range width + 5 {
			var in []int64
			for range long {
				in = append(in, int64(1+next(&seed)%9))
			}
			whole := make([]int64, width)
			for i := range min(long, width) {
				whole[i] = in[i]
			}
			gates, outs := passed(t, p, in)
			if a, b := passed(t, p, whole); !slices.Equal(gates, a) || !slices.Equal(outs, b) {
				t.Errorf("width %d: Pass(%v): %v, %v; want %v, %v", width, in, gates, outs, a, b)
			}
		}
		for _, in := range [][]int64{nil, {}, make([]int64, width), {0}} {
			gates, outs := passed(t, p, in)
			if slices.Max(outs) != 0 || len(gates) > 0 && slices.Max(gates) != 0 {
				t.Errorf("width %d: Pass(%v): %v, %v", width, in, gates, outs)
			}
		}
	}
}

// P10.1: by hand: of 4 wires.
func TestPassByHand(t *testing.T) {
	p := made(t, 4)
	for _, c := range []struct{ in, gates, outs []int64 }{
		{[]int64{5, 0, 0, 0}, []int64{5, 0, 3, 2, 3, 2}, []int64{2, 1, 1, 1}},
		{[]int64{0, 3, 2, 1, 9}, []int64{3, 3, 3, 3, 4, 2}, []int64{2, 2, 1, 1}},
		{[]int64{0, 0, 1}, []int64{0, 1, 0, 1, 1, 0}, []int64{1, 0, 0, 0}},
	} {
		if gates, outs := passed(t, p, c.in); !slices.Equal(gates, c.gates) || !slices.Equal(outs, c.outs) {
			t.Errorf("Pass(%v): %v, %v; want %v, %v", c.in, gates, outs, c.gates, c.outs)
		}
	}
}

// P10.1: both lists of an answer are new each time, share nothing with each other, nor with what was handed in.
func TestPassApart(t *testing.T) {
	for _, width := range widths() {
		p := made(t, width)
		in := slices.Repeat([]int64{3}, width+2)
		gates, outs := p.Pass(in)
		kept := [][]int64{slices.Clone(gates), slices.Clone(outs)}
		clear(in)
		if !slices.Equal(gates, kept[0]) || !slices.Equal(outs, kept[1]) {
			t.Errorf("width %d: the answer is what was handed in", width)
		}
		clear(gates[:cap(gates)])
		if !slices.Equal(outs, kept[1]) {
			t.Errorf("width %d: both lists are one", width)
		}
		clear(outs[:cap(outs)])
		for i := range in {
			in[i] = 3
		}
		if a, b := p.Pass(in); !slices.Equal(a, kept[0]) || !slices.Equal(b, kept[1]) || !reflect.DeepEqual(p, made(t, width)) {
			t.Errorf("width %d: an answer that was changed changes the next one: %v, %v", width, a, b)
		}
	}
}

// P10.1: a plan that nobody made has nothing: it ends all the same.
func TestPassZero(t *testing.T) {
	if gates, outs := (wire.Plan{}).Pass([]int64{1, 2}); len(gates) != 0 || len(outs) != 0 {
		t.Errorf("Pass: %v, %v", gates, outs)
	}
}

// P10.1: Even of numbers and places: below 1 none; n below places, n that they divide, and the greatest.
func TestEven(t *testing.T) {
	for _, c := range []struct {
		n      int64
		places int
		want   []int64
	}{
		{5, 3, []int64{2, 2, 1}}, {7, 3, []int64{3, 2, 2}}, {6, 3, []int64{2, 2, 2}}, {2, 3, []int64{1, 1, 0}}, {1, 3, []int64{1, 0, 0}}, {0, 3, []int64{0, 0, 0}}, {3, 3, []int64{1, 1, 1}}, {4, 3, []int64{2, 1, 1}},
		{0, 1, []int64{0}}, {9, 1, []int64{9}}, {math.MaxInt64, 1, []int64{math.MaxInt64}},
		{math.MaxInt64, 2, []int64{1 << 62, 1<<62 - 1}}, {1 << 60, 2, []int64{1 << 59, 1 << 59}}, {math.MaxInt64, 4, []int64{1 << 61, 1 << 61, 1 << 61, 1<<61 - 1}},
	} {
		if got := wire.Even(c.n, c.places); !slices.Equal(got, c.want) {
			t.Errorf("Even(%d, %d): %v; want %v", c.n, c.places, got, c.want)
		}
	}
	for _, places := range []int{0, -1, -2, -1 << 32, math.MinInt} {
		for _, n := range []int64{0, 5, math.MaxInt64} {
			if got := wire.Even(n, places); len(got) != 0 {
				t.Errorf("Even(%d, %d): %v", n, places, got)
			}
		}
	}
}

// P10.1, P10.3: all together are n, and the first ones have one more.
func TestEvenAny(t *testing.T) {
	seed := uint64(14)
	for places := 1; places <= 70; places++ {
		for n := range int64(200) {
			for _, n := range []int64{n, int64(next(&seed) << 8 >> 1), math.MaxInt64 - n, n * int64(places)} {
				l := wire.Even(n, places)
				if len(l) != places || l[places-1] != n/int64(places) {
					t.Fatalf("Even(%d, %d): %v", n, places, l)
				}
				even(t, l, n)
			}
		}
	}
	for _, places := range []int{1000, 70000} {
		for _, n := range []int64{0, 1, 999, 69999, 70000, 1 << 40} {
			l := wire.Even(n, places)
			if len(l) != places {
				t.Fatalf("Even(%d, %d): %d places", n, places, len(l))
			}
			even(t, l, n)
		}
	}
}

// P10.2: what goes out is Even of all that came, by the call's own word.
func TestStepIsEven(t *testing.T) {
	seed := uint64(15)
	for _, width := range widths() {
		p := made(t, width)
		for range 2000 {
			in, total := make([]int64, width), int64(0)
			for i := range in {
				in[i] = int64(next(&seed) >> (next(&seed) % 48))
				total += in[i]
			}
			if _, outs := p.Pass(in); !slices.Equal(outs, wire.Even(total, width)) {
				t.Fatalf("width %d: Pass(%v): %v", width, in, outs)
			}
		}
	}
}
