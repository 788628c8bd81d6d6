package op_test

import (
	"math"
	"math/big"
	"reflect"
	"slices"
	"testing"

	"carryover/api"
	"carryover/cell"
	"carryover/op"
	"carryover/pile"
)

const noErr = api.OK

// edges: kinds and numbers that lie about everything that is one.
func edges() []int {
	out := []int{math.MinInt, math.MinInt + 1, -1 << 32, math.MaxInt - 1, math.MaxInt, 1 << 32, 1<<32 + 1, 256 + 1}
	for k := -20; k <= 40; k++ {
		out = append(out, k)
	}
	return out
}

// ofs: the operations of each kind, as numbers.
func ofs() map[int][]int {
	return map[int][]int{1: {1, 2}, 2: {3, 4}, 3: {5, 6}, 4: {7}}
}

// P6.1: the numbers of the operations.
func TestNumbers(t *testing.T) {
	got := []int{op.Insert, op.Delete, op.Enq, op.Deq, op.Add, op.Sum, op.Next}
	if !slices.Equal(got, []int{1, 2, 3, 4, 5, 6, 7}) {
		t.Error(got)
	}
}

// P6.1: Of, of each kind and of what is none; each answer is one of its own.
func TestOf(t *testing.T) {
	for range 2 {
		for _, kind := range edges() {
			got := op.Of(kind)
			if !slices.Equal(got, ofs()[kind]) {
				t.Errorf("Of(%d): %v", kind, got)
			}
			for k := range got[:cap(got)] {
				got[:cap(got)][k] = 99
			}
		}
	}
}

// P6.1: Check, of each kind with each operation; only an Add's Val is looked at.
func TestCheck(t *testing.T) {
	vals := []int64{math.MinInt64, -1, 0, 1, 1<<32 - 1, 1 << 32, 1<<32 + 1, 1 << 33, math.MaxInt64}
	for _, kind := range edges() {
		for _, k := range edges() {
			for _, val := range vals {
				want := noErr
				if !slices.Contains(ofs()[kind], k) {
					want = api.ErrKind
				} else if k == 5 && (val < 0 || val > 4294967296) {
					want = api.ErrArg
				}
				for _, pri := range []float64{0, -1, math.NaN(), math.Inf(1)} {
					o := op.Op{Kind: k, Item: pile.Item{Pri: pri, Val: val}, Draw: [2]int{math.MinInt, -1}}
					if e := o.Check(kind); e != want {
						t.Fatalf("%+v of kind %d: %d; want %d", o, kind, e, want)
					}
				}
			}
		}
	}
}

// P6.1: the edges of an Add, spelt out; of another kind ErrKind is the first error.
func TestCheckAdd(t *testing.T) {
	for _, c := range []struct {
		kind int
		val  int64
		want api.Errno
	}{
		{api.Tally, math.MinInt64, api.ErrArg}, {api.Tally, -1, api.ErrArg}, {api.Tally, 0, api.OK}, {api.Tally, 1, api.OK},
		{api.Tally, 1 << 32, api.OK}, {api.Tally, 1<<32 + 1, api.ErrArg}, {api.Tally, math.MaxInt64, api.ErrArg},
		{api.Multi, -1, api.ErrKind}, {api.Net, 1<<32 + 1, api.ErrKind}, {0, -1, api.ErrKind}, {5, 0, api.ErrKind},
	} {
		if e := (op.Op{Kind: op.Add, Item: pile.Item{Val: c.val}}).Check(c.kind); e != c.want {
			t.Errorf("Add of %d, kind %d: %d; want %d", c.val, c.kind, e, c.want)
		}
	}
	if e := (op.Op{}).Check(0); e != api.ErrKind {
		t.Errorf("no operation of no kind: %d", e)
	}
	if e := (op.Op{Kind: op.Sum, Item: pile.Item{Val: -1}}).Check(api.Tally); e != api.OK {
		t.Errorf("a Sum with a Val: %d", e)
	}
}

// P6.1: Into, held against the library's great numbers.
func TestInto(t *testing.T) {
	ns := append(edges(), 3<<40, math.MaxInt/2, math.MaxInt/2+1)
	draws := append(edges(), 3<<40, -3<<40, math.MinInt/2, math.MaxInt/3)
	for _, n := range ns {
		for _, draw := range draws {
			want := 0
			if n >= 1 {
				want = int(new(big.Int).Mod(big.NewInt(int64(draw)), big.NewInt(int64(n))).Int64())
			}
			if got := op.Into(draw, n); got != want {
				t.Fatalf("Into(%d, %d): %d; want %d", draw, n, got, want)
			}
		}
	}
}

// P6.1: Into, spelt out.
func TestIntoEdges(t *testing.T) {
	for _, c := range [][3]int{
		{-1, 5, 4}, {-5, 5, 0}, {-6, 5, 4}, {0, 5, 0}, {4, 5, 4}, {5, 5, 0}, {7, 1, 0}, {-7, 1, 0},
		{math.MinInt, 1, 0}, {math.MinInt, 3, 1}, {math.MinInt, 16, 0}, {math.MaxInt, 16, 15}, {math.MaxInt, 10, 7},
		{math.MinInt, math.MaxInt, math.MaxInt - 1}, {math.MaxInt, math.MaxInt, 0}, {-1, math.MaxInt, math.MaxInt - 1},
		{3, 0, 0}, {3, -1, 0}, {-3, -2, 0}, {math.MinInt, -1, 0}, {3, math.MinInt, 0},
	} {
		if got := op.Into(c[0], c[1]); got != c[2] {
			t.Errorf("Into(%d, %d): %d; want %d", c[0], c[1], got, c[2])
		}
	}
}

// P6.1: Legal, of each kind and of what is none, with parameters about the limits.
func TestLegal(t *testing.T) {
	for _, kind := range edges() {
		for _, param := range edges() {
			want := noErr
			switch {
			case kind < 1 || kind > 4:
				want = api.ErrKind
			case param < 1 || param > 16:
				want = api.ErrParam
			case kind == 4 && !slices.Contains([]int{1, 2, 4, 8, 16}, param):
				want = api.ErrParam
			}
			if e := op.Legal(kind, param); e != want {
				t.Fatalf("Legal(%d, %d): %d; want %d", kind, param, e, want)
			}
		}
	}
}

// P6.1: Legal, spelt out.
func TestLegalEdges(t *testing.T) {
	for _, kind := range []int{api.Multi, api.Kfifo, api.Tally} {
		for param, want := range map[int]api.Errno{-1: api.ErrParam, 0: api.ErrParam, 1: api.OK, 3: api.OK, 6: api.OK, 15: api.OK, 16: api.OK, 17: api.ErrParam, 32: api.ErrParam} {
			if e := op.Legal(kind, param); e != want {
				t.Errorf("Legal(%d, %d): %d", kind, param, e)
			}
		}
	}
	for param, want := range map[int]api.Errno{-1: api.ErrParam, 0: api.ErrParam, 1: api.OK, 2: api.OK, 3: api.ErrParam, 4: api.OK, 6: api.ErrParam, 8: api.OK, 12: api.ErrParam, 15: api.ErrParam, 16: api.OK, 17: api.ErrParam, 32: api.ErrParam, math.MinInt: api.ErrParam} {
		if e := op.Legal(api.Net, param); e != want {
			t.Errorf("Legal of a Net and %d: %d", param, e)
		}
	}
	if op.Legal(0, 1) != api.ErrKind || op.Legal(5, 0) != api.ErrKind || op.Legal(-1, 17) != api.ErrKind {
		t.Error("Legal of no kind")
	}
}

// A clerk is a machine that is done behind so many steps, and writes down what it was handed.
type clerk struct {
	need     int
	answer   op.Answer
	frames   []op.Frame
	at       []*op.Frame
	memories []*cell.Memory
}

func (c *clerk) Step(m *cell.Memory, f *op.Frame) (op.Answer, bool) {
	c.frames, c.at, c.memories = append(c.frames, *f), append(c.at, f), append(c.memories, m)
	f.PC++
	f.Total += 10
	f.Kind = 77
	f.Cells[1].N--
	m.Force(f.PC, cell.Value{N: f.Total})
	return c.answer, f.PC >= c.need
}

// P6.1: Alone, of machines that are done behind no, one and many steps, and of one that never is, with most about that.
func TestAlone(t *testing.T) {
	o := op.Op{Kind: op.Add, Item: pile.Item{Pri: 2, Val: 3}, Draw: [2]int{-4, 5}}
	answer := op.Answer{Ok: true, Item: pile.Item{Pri: 6, Val: 7}, N: 8}
	for _, behind := range []int{0, 1, 2, 3, 50, math.MaxInt} {
		need := max(1, behind) // it takes a step to learn that nothing was needed
		for _, most := range []int{math.MinInt, -1, 0, 1, 2, 3, 4, 49, 50, 51} {
			c, m := &clerk{need: behind, answer: answer}, cell.New()
			got, ok := op.Alone(c, m, o, most)
			steps, want := max(0, min(need, most)), op.Answer{}
			if need <= most {
				want = answer
			}
			if got != want || ok != (need <= most) || len(c.frames) != steps || m.Clock() != uint64(steps) {
				t.Errorf("%d steps, most %d: %v, %v behind %d", need, most, got, ok, len(c.frames))
			}
			for k, f := range c.frames {
				if !reflect.DeepEqual(f, frameAt(o, k)) || c.at[k] != c.at[0] || c.memories[k] != m {
					t.Fatalf("step %d was handed %+v", k, f)
				}
			}
		}
	}
}

// frameAt: what a clerk has made of an operation's frame, so many steps on.
func frameAt(o op.Op, steps int) op.Frame {
	f := op.Frame{Op: o, PC: steps, Total: int64(10 * steps)}
	f.Cells[1].N = int64(-steps)
	if steps > 0 {
		f.Kind = 77
	}
	return f
}

// P6.1: an operation that is done may have an answer of zeros alone; one that isn't has no other.
func TestAloneZero(t *testing.T) {
	if a, ok := op.Alone(&clerk{need: 2}, cell.New(), op.Op{}, 5); a != (op.Answer{}) || !ok {
		t.Errorf("done: %v, %v", a, ok)
	}
	c := &clerk{need: 9, answer: op.Answer{Ok: true, N: 1}}
	if a, ok := op.Alone(c, cell.New(), op.Op{}, 8); a != (op.Answer{}) || ok || len(c.frames) != 8 {
		t.Errorf("not done: %v, %v", a, ok)
	}
}

// P6.1: with no steps at all nothing is done, whatever the machine is.
func TestAloneNone(t *testing.T) {
	for _, most := range []int{0, -1, math.MinInt} {
		c, m := &clerk{need: -1, answer: op.Answer{Ok: true}}, cell.New()
		if a, ok := op.Alone(c, m, op.Op{}, most); a != (op.Answer{}) || ok || len(c.frames) != 0 || m.Clock() != 0 {
			t.Errorf("most %d: %v, %v, %d steps", most, a, ok, len(c.frames))
		}
	}
}

// A counter is a machine as the layers above have them: it reads cell 0, then writes it, if it is still what was read.
type counter struct{}

func (counter) Step(m *cell.Memory, f *op.Frame) (op.Answer, bool) {
	if f.PC == 0 {
		f.Cells[0], f.PC = m.Read(0), 1
		return op.Answer{}, false
	}
	f.PC = 0
	n := f.Cells[0].N + f.Val
	if !m.Write(0, f.Cells[0].Ver, cell.Value{N: n}) {
		return op.Answer{}, false
	}
	return op.Answer{Ok: true, N: n}, true
}

// P6.1: operations one behind the other on one memory, each with a frame of its own; what isn't done leaves no write.
func TestAloneBehindOthers(t *testing.T) {
	m, sum := cell.New(), int64(0)
	for k := range int64(20) {
		o := op.Op{Kind: op.Add, Item: pile.Item{Val: k}}
		if _, ok := op.Alone(counter{}, m, o, 1); ok || m.Clock() != uint64(k) {
			t.Fatalf("Add of %d: done by one step", k)
		}
		sum += k
		a, ok := op.Alone(counter{}, m, o, 2)
		if !ok || a != (op.Answer{Ok: true, N: sum}) || m.Read(0).N != sum {
			t.Fatalf("Add of %d: %v, %v", k, a, ok)
		}
		if o != (op.Op{Kind: op.Add, Item: pile.Item{Val: k}}) {
			t.Fatalf("the operation has changed: %v", o)
		}
	}
}

// P6.1: an operation's item is its own, and a frame's.
func TestParts(t *testing.T) {
	f := op.Frame{Op: op.Op{Kind: op.Insert, Item: pile.Item{Pri: math.NaN(), Val: 2}, Draw: [2]int{3, 4}}}
	if f.Kind != op.Insert || f.Val != 2 || f.Draw[1] != 4 || f.Cmp(pile.Item{Pri: math.NaN(), Val: 2}) != 0 {
		t.Error("a frame's parts")
	}
	var _ op.Machine = counter{}
}
