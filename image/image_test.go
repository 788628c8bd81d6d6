package image_test

import (
	"math"
	"reflect"
	"slices"
	"testing"

	"carryover/api"
	"carryover/cell"
	"carryover/engine"
	"carryover/history"
	"carryover/image"
	"carryover/kfifo"
	"carryover/net"
	"carryover/op"
	"carryover/pile"
	"carryover/scan"
	"carryover/value"
)

// next: numbers that look like chance, the same ones each time.
func next(seed *uint64) uint64 {
	*seed = *seed*6364136223846793005 + 1442695040888963407
	x := *seed ^ *seed>>29
	return x * 0x9e3779b97f4a7c15 >> 16
}

func below(seed *uint64, n int) int {
	return int(next(seed) % uint64(n))
}

func kinds() []int {
	return []int{api.Multi, api.Kfifo, api.Tally, api.Net}
}

func noKinds() []int {
	return []int{0, 5, 6, -1, -4, 100, 1 << 32, 1<<32 + 1, math.MinInt, math.MaxInt}
}

// params: all that a kind may have.
func params(kind int) (l []int) {
	for param := 1; param <= api.MaxParam; param++ {
		if op.Legal(kind, param) == api.OK {
			l = append(l, param)
		}
	}
	return l
}

// nans: of many bits; all of them are the same, and behind all others.
func nans() []float64 {
	return []float64{math.NaN(), math.Float64frombits(0x7ff8000000000000), math.Float64frombits(0x7ff0000000000001), math.Float64frombits(0xfff8000000000000), math.Float64frombits(math.MaxUint64)}
}

// rising: priorities in order, each its own.
func rising() []float64 {
	return []float64{math.Inf(-1), -math.MaxFloat64, -1, -math.SmallestNonzeroFloat64, math.Copysign(0, -1), 0, math.SmallestNonzeroFloat64, 1, math.MaxFloat64, math.Inf(1), math.NaN()}
}

// exact: the same one, bit by bit.
func exact(x, y pile.Item) bool {
	return math.Float64bits(x.Pri) == math.Float64bits(y.Pri) && x.Val == y.Val
}

func one(x, y pile.Item) bool {
	return x.Cmp(y) == 0
}

// is: has an image all that another one has, items that are the same for one?
func is(im, other image.Image) bool {
	if im.Kind != other.Kind || im.Param != other.Param || im.Clock != other.Clock || len(im.Lists) != len(other.Lists) || !slices.Equal(im.Counts, other.Counts) {
		return false
	}
	for i := range im.Lists {
		if !slices.EqualFunc(im.Lists[i], other.Lists[i], one) {
			return false
		}
	}
	return true
}

func holds(v, w value.Value) bool {
	return v.Kind == w.Kind && v.N == w.N && slices.EqualFunc(v.Items, w.Items, one)
}

// copied: all of it, sharing nothing.
func copied(im image.Image) image.Image {
	lists := make([][]pile.Item, len(im.Lists))
	for i, l := range im.Lists {
		lists[i] = slices.Clone(l)
	}
	im.Lists, im.Counts = lists, slices.Clone(im.Counts)
	return im
}

// untouched: is an image, bit by bit, what it was?
func untouched(im, was image.Image) bool {
	if !is(im, was) {
		return false
	}
	for i := range im.Lists {
		if !slices.EqualFunc(im.Lists[i], was.Lists[i], exact) {
			return false
		}
	}
	return true
}

// spoil: whoever shares memory with it isn't what he was.
func spoil(l []pile.Item) {
	for i := range l {
		l[i] = pile.Item{Pri: -77, Val: -77}
	}
	for i := range l[:cap(l)] {
		l[:cap(l)][i] = pile.Item{Pri: -77, Val: -77}
	}
}

// vals: items of these numbers.
func vals(l ...int64) (out []pile.Item) {
	for _, n := range l {
		out = append(out, pile.Item{Val: n})
	}
	return out
}

// pris: items of these priorities.
func pris(l ...float64) (out []pile.Item) {
	for _, f := range l {
		out = append(out, pile.Item{Pri: f})
	}
	return out
}

func lists(l ...[]pile.Item) [][]pile.Item {
	return l
}

// many: lists of so many items each, all of them the same.
func many(counts ...int) (out [][]pile.Item) {
	for _, n := range counts {
		out = append(out, make([]pile.Item, n))
	}
	return out
}

// P17.1: room for whole segments alone, behind the cells of both ends; below 1 counts as 1.
func TestRoom(t *testing.T) {
	for k := 1; k <= 3000; k++ {
		want := 0
		for kfifo.Base+want+k <= api.MaxCells {
			want += k
		}
		if got := image.Room(k); got != want {
			t.Errorf("Room(%d): %d; want %d", k, got, want)
		}
	}
	for k, want := range map[int]int{16: 992, 1: 998, 2: 998, 3: 996, 7: 994, 499: 998, 500: 500, 998: 998, 999: 0, 1000: 0, math.MaxInt: 0, 0: 998, -1: 998, -16: 998, math.MinInt: 998} {
		if got := image.Room(k); got != want {
			t.Errorf("Room(%d): %d; want %d", k, got, want)
		}
	}
}

// P17.1: a queue that begins with nothing takes so many items, and not one more.
func TestRoomOfQueues(t *testing.T) {
	for _, k := range params(api.Kfifo) {
		q, _ := kfifo.New(k)
		m, room := cell.New(), 0
		for {
			a, done := op.Alone(q, m, op.Op{Kind: op.Enq, Draw: [2]int{room}}, 100)
			if !done {
				t.Fatalf("k %d: an Enq doesn't end", k)
			}
			if !a.Ok {
				break
			}
			room++
		}
		if got := image.Room(k); got != room {
			t.Errorf("Room(%d): %d; such a queue took %d", k, got, room)
		}
	}
}

// P17.1: how many lists, and how many counts; a parameter isn't looked at.
func TestShape(t *testing.T) {
	for _, param := range []int{1, 2, 3, 4, 6, 15, 16, 17, 0, -1, -16, 1000, 1 << 40, math.MinInt, math.MaxInt} {
		for kind, want := range map[int][2]int{api.Multi: {param, 0}, api.Kfifo: {1, 0}, api.Tally: {0, param}, api.Net: {0, 1}} {
			if l, c := image.Shape(kind, param); l != want[0] || c != want[1] {
				t.Errorf("Shape(%d, %d): %d, %d; want %v", kind, param, l, c, want)
			}
		}
		for _, kind := range noKinds() {
			if l, c := image.Shape(kind, param); l != 0 || c != 0 {
				t.Errorf("Shape(%d, %d): %d, %d; want 0, 0", kind, param, l, c)
			}
		}
	}
}

// check: Check answers that, and the image stays as it is.
func check(t *testing.T, im image.Image, want api.Errno) {
	t.Helper()
	was := copied(im)
	if got := im.Check(); got != want || !untouched(im, was) {
		t.Errorf("Check of %+v: %d; want %d; it is as it was: %v", im, got, want, untouched(im, was))
	}
}

// empty: an image of a structure in which nothing is.
func empty(kind, param int) image.Image {
	l, c := image.Shape(kind, param)
	return image.Image{Kind: kind, Param: param, Lists: make([][]pile.Item, l), Counts: make([]int64, c)}
}

// P17.1: layer 6's Legal comes first, whatever else is wrong.
func TestCheckLegal(t *testing.T) {
	wrong := image.Image{Clock: 7, Lists: lists(pris(2, 1), make([]pile.Item, 2000)), Counts: []int64{-1, math.MaxInt64}}
	for _, kind := range noKinds() {
		for _, param := range []int{1, 0, 17, -1, math.MinInt, math.MaxInt} {
			check(t, image.Image{Kind: kind, Param: param}, api.ErrKind)
			im := wrong
			im.Kind, im.Param = kind, param
			check(t, im, api.ErrKind)
		}
	}
	for _, kind := range kinds() {
		for _, param := range []int{0, 17, 18, 32, -1, -2, 1 << 32, 1<<32 + 1, math.MinInt, math.MaxInt} {
			check(t, image.Image{Kind: kind, Param: param}, api.ErrParam)
			im := wrong
			im.Kind, im.Param = kind, param
			check(t, im, api.ErrParam)
		}
		for _, param := range params(kind) {
			check(t, empty(kind, param), api.OK)
		}
	}
	for _, param := range []int{3, 5, 6, 7, 9, 12, 15} {
		check(t, empty(api.Net, param), api.ErrParam)
	}
}

// P17.1: ErrForm: another number of lists, or of counts, whatever is in them; nil and empty ones are the same.
func TestCheckForm(t *testing.T) {
	for _, kind := range kinds() {
		for _, param := range params(kind) {
			l, c := image.Shape(kind, param)
			for nl := range 19 {
				for nc := range 19 {
					im := image.Image{Kind: kind, Param: param, Clock: math.MaxUint64, Lists: make([][]pile.Item, nl), Counts: make([]int64, nc)}
					want := api.ErrForm
					if nl == l && nc == c {
						want = api.OK
					}
					check(t, im, want)
					for i := range im.Lists {
						im.Lists[i] = []pile.Item{}
					}
					check(t, im, want)
					if want == api.OK {
						continue
					}
					if nl > 0 {
						im.Lists[nl-1] = many(1001)[0]
					}
					for i := range im.Counts {
						im.Counts[i] = -1
					}
					check(t, im, want)
				}
			}
		}
	}
	check(t, image.Image{Kind: api.Net, Param: 4}, api.ErrForm)
	check(t, image.Image{Kind: api.Kfifo, Param: 4}, api.ErrForm)
	check(t, image.Image{Kind: api.Kfifo, Param: 4, Lists: lists(nil), Counts: []int64{0}}, api.ErrForm)
	check(t, image.Image{Kind: api.Tally, Param: 1, Lists: lists(nil), Counts: []int64{0}}, api.ErrForm)
}

// P17.1: list by list: too many items of a shard, then their order; a queue's order is as it is.
func TestCheckLists(t *testing.T) {
	multi := func(l ...[]pile.Item) image.Image {
		return image.Image{Kind: api.Multi, Param: len(l), Lists: l}
	}
	back, long := pris(2, 1), make([]pile.Item, 63)
	longBack := append(pris(1), make([]pile.Item, 62)...)
	for i, c := range []struct {
		im   image.Image
		want api.Errno
	}{
		{multi(make([]pile.Item, 62)), api.OK},
		{multi(long), api.ErrBig},
		{multi(longBack), api.ErrBig},
		{multi(back), api.ErrOrder},
		{multi(long, back), api.ErrBig},
		{multi(back, long), api.ErrOrder},
		{multi(nil, nil, back, nil), api.ErrOrder},
		{multi(nil, nil, nil, long), api.ErrBig},
		{multi(many(62, 62, 62, 62, 62, 62, 62, 62, 62, 62, 62, 62, 62, 62, 62, 62)...), api.OK},
		{multi(many(62, 62, 62, 62, 62, 62, 62, 62, 62, 62, 62, 62, 62, 62, 62, 63)...), api.ErrBig},
		{multi(pris(2), pris(1)), api.OK},
		{multi(pris(rising()...)), api.OK},
		{multi(append(pris(rising()...), pris(nans()...)...)), api.OK},
		{multi(vals(math.MinInt64, -1, 0, 0, 1, math.MaxInt64)), api.OK},
		{multi(vals(1, 0)), api.ErrOrder},
		{multi(vals(0, -1)), api.ErrOrder},
		{multi(vals(math.MaxInt64, math.MinInt64)), api.ErrOrder},
		{multi([]pile.Item{{Pri: 1, Val: 9}, {Pri: 2, Val: -9}}), api.OK},
		{multi([]pile.Item{{Pri: math.NaN(), Val: 2}, {Pri: nans()[3], Val: 1}}), api.ErrOrder},
		{multi([]pile.Item{{Pri: nans()[4], Val: 1}, {Pri: nans()[1], Val: 1}, {Pri: nans()[2], Val: 2}}), api.OK},
		{multi(pris(0, math.Copysign(0, -1))), api.ErrOrder},
		{multi(pris(math.NaN(), math.Inf(1))), api.ErrOrder},
		{multi(pris(1, 2, 3, 4, 5, 5, 4)), api.ErrOrder},
		{image.Image{Kind: api.Kfifo, Param: 1, Lists: lists(back)}, api.OK},
		{image.Image{Kind: api.Kfifo, Param: 1, Lists: lists(longBack)}, api.OK},
		{image.Image{Kind: api.Kfifo, Param: 16, Lists: many(1000)}, api.OK},
		{image.Image{Kind: api.Kfifo, Param: 16, Lists: many(1001)}, api.ErrBig},
		{image.Image{Kind: api.Kfifo, Param: 1, Lists: many(5000)}, api.ErrBig},
	} {
		if got := c.im.Check(); got != c.want {
			t.Errorf("Check %d: %d; want %d", i, got, c.want)
		}
	}
	for i := range 10 {
		l := pris(rising()...)
		l[i], l[i+1] = l[i+1], l[i]
		check(t, multi(nil, l), api.ErrOrder)
		check(t, image.Image{Kind: api.Kfifo, Param: 3, Lists: lists(l)}, api.OK)
	}
}

// P17.1: count by count, then all together.
func TestCheckCounts(t *testing.T) {
	for i, c := range []struct {
		counts []int64
		want   api.Errno
	}{
		{[]int64{0}, api.OK},
		{[]int64{1 << 50}, api.OK},
		{[]int64{1<<50 + 1}, api.ErrArg},
		{[]int64{-1}, api.ErrArg},
		{[]int64{math.MinInt64}, api.ErrArg},
		{[]int64{math.MaxInt64}, api.ErrArg},
		{[]int64{1 << 49, 1 << 49}, api.OK},
		{[]int64{1 << 49, 1<<49 + 1}, api.ErrArg},
		{[]int64{1 << 50, 0, 0, 0}, api.OK},
		{[]int64{0, 0, 1, 1 << 50}, api.ErrArg},
		{[]int64{5, -1}, api.ErrArg},
		{[]int64{1<<50 + 5, -5}, api.ErrArg},
		{[]int64{1 << 50, -1, 1}, api.ErrArg},
		{[]int64{math.MaxInt64, math.MaxInt64, 2}, api.ErrArg},
		{[]int64{1 << 50, 1 << 50, 1 << 50, 1 << 50, 1 << 50, 1 << 50, 1 << 50, 1 << 50, 1 << 50, 1 << 50, 1 << 50, 1 << 50, 1 << 50, 1 << 50, 1 << 50, 1 << 50}, api.ErrArg},
		{[]int64{1 << 46, 1 << 46, 1 << 46, 1 << 46, 1 << 46, 1 << 46, 1 << 46, 1 << 46, 1 << 46, 1 << 46, 1 << 46, 1 << 46, 1 << 46, 1 << 46, 1 << 46, 1 << 46}, api.OK},
	} {
		check(t, image.Image{Kind: api.Tally, Param: len(c.counts), Counts: c.counts}, c.want)
		if len(c.counts) > 1 {
			continue
		}
		for _, width := range params(api.Net) {
			im := image.Image{Kind: api.Net, Param: width, Counts: c.counts}
			if got := im.Check(); got != c.want {
				t.Errorf("Check of a Net %d: %d; want %d", i, got, c.want)
			}
		}
	}
}

// told: what the chapter says of Check, one behind the other.
func told(im image.Image) api.Errno {
	if e := op.Legal(im.Kind, im.Param); e != api.OK {
		return e
	}
	nl, nc := map[int]int{api.Multi: im.Param, api.Kfifo: 1}[im.Kind], map[int]int{api.Tally: im.Param, api.Net: 1}[im.Kind]
	if len(im.Lists) != nl || len(im.Counts) != nc {
		return api.ErrForm
	}
	items := 0
	for _, l := range im.Lists {
		items += len(l)
		if im.Kind != api.Multi {
			continue
		}
		if len(l) > 62 {
			return api.ErrBig
		}
		for i := 1; i < len(l); i++ {
			if l[i].Cmp(l[i-1]) < 0 {
				return api.ErrOrder
			}
		}
	}
	if items > 1000 {
		return api.ErrBig
	}
	total := 0.0
	for _, n := range im.Counts {
		if n < 0 || n > 1<<50 {
			return api.ErrArg
		}
		total += float64(n)
	}
	if total > 1<<50 {
		return api.ErrArg
	}
	return api.OK
}

// anyList: now and then too long, or out of order.
func anyList(seed *uint64) []pile.Item {
	n := below(seed, 6)
	if below(seed, 12) == 0 {
		n = 60 + below(seed, 5)
	}
	l := make([]pile.Item, n)
	for i := range l {
		l[i] = pile.Item{Pri: rising()[below(seed, 11)], Val: int64(below(seed, 3))}
	}
	if below(seed, 8) != 0 {
		l = pile.Sorted(l)
	}
	return l
}

func anyCount(seed *uint64) int64 {
	switch below(seed, 12) {
	case 0:
		return -1
	case 1:
		return 1<<50 + int64(below(seed, 3)) - 1
	case 2:
		return 1 << 49
	}
	return int64(below(seed, 100))
}

// anyImage: it may be, or not.
func anyImage(seed *uint64) image.Image {
	im := image.Image{Kind: kinds()[below(seed, 4)], Param: 1 + below(seed, 5), Clock: next(seed) % 3}
	nl, nc := image.Shape(im.Kind, im.Param)
	if below(seed, 10) == 0 {
		nl, nc = below(seed, 3), below(seed, 3)
	}
	for range nl {
		im.Lists = append(im.Lists, anyList(seed))
	}
	for range nc {
		im.Counts = append(im.Counts, anyCount(seed))
	}
	return im
}

// P17.1: any images, some of which are wrong in more than one way.
func TestCheckAny(t *testing.T) {
	seed, found := uint64(17), map[api.Errno]int{}
	for range 40000 {
		im := anyImage(&seed)
		want := told(im)
		check(t, im, want)
		found[want]++
	}
	for _, e := range []api.Errno{api.OK, api.ErrParam, api.ErrForm, api.ErrBig, api.ErrOrder, api.ErrArg} {
		if found[e] < 100 {
			t.Errorf("%d was asked for %d times", e, found[e])
		}
	}
}

// P17.1: what the structure held: of shards all items in order, of a queue its list, of counters the sum.
func TestValue(t *testing.T) {
	nan := math.NaN()
	for i, c := range []struct {
		im   image.Image
		want value.Value
	}{
		{image.Image{Kind: api.Multi, Param: 3, Clock: 9, Lists: lists(pris(1, 4), nil, pris(0, 2, nan))}, value.Value{Kind: api.Multi, Items: pris(0, 1, 2, 4, nan)}},
		{image.Image{Kind: api.Multi, Param: 2, Lists: lists(vals(1, 1, 3), vals(1, 2, 3))}, value.Value{Kind: api.Multi, Items: vals(1, 1, 1, 2, 3, 3)}},
		{image.Image{Kind: api.Multi, Param: 1, Lists: lists(pris(nans()...))}, value.Value{Kind: api.Multi, Items: pris(nan, nan, nan, nan, nan)}},
		{image.Image{Kind: api.Kfifo, Param: 3, Clock: 9, Lists: lists(vals(5, 2, 5, 1))}, value.Value{Kind: api.Kfifo, Items: vals(5, 2, 5, 1)}},
		{image.Image{Kind: api.Kfifo, Param: 3, Lists: lists(pris(nan, 0, -1))}, value.Value{Kind: api.Kfifo, Items: pris(nan, 0, -1)}},
		{image.Image{Kind: api.Tally, Param: 4, Clock: 9, Counts: []int64{1, 0, 20, 300}}, value.Value{Kind: api.Tally, N: 321}},
		{image.Image{Kind: api.Tally, Param: 2, Counts: []int64{1 << 49, 1 << 49}}, value.Value{Kind: api.Tally, N: 1 << 50}},
		{image.Image{Kind: api.Net, Param: 4, Clock: 9, Counts: []int64{7}}, value.Value{Kind: api.Net, N: 7}},
	} {
		was := copied(c.im)
		v := c.im.Value()
		if c.im.Check() != api.OK || !holds(v, c.want) || !untouched(c.im, was) {
			t.Errorf("Value %d: %+v; want %+v; it is as it was: %v", i, v, c.want, untouched(c.im, was))
		}
		spoil(v.Items)
		if !untouched(c.im, was) {
			t.Errorf("Value %d: it shares memory with the image", i)
		}
		for _, l := range c.im.Lists {
			v = c.im.Value()
			spoil(l)
			if !holds(v, c.want) {
				t.Errorf("Value %d: the image shares memory with it", i)
			}
			c.im = copied(was)
		}
	}
	for _, kind := range kinds() {
		for _, param := range params(kind) {
			if v := empty(kind, param).Value(); !holds(v, value.Value{Kind: kind}) {
				t.Errorf("Value of nothing, %d, %d: %+v", kind, param, v)
			}
		}
	}
}

// inMemory: an image's structure, its cells written as its items came.
func inMemory(im image.Image) *cell.Memory {
	m := cell.New()
	switch im.Kind {
	case api.Multi:
		for i, l := range im.Lists {
			m.Force(i, cell.Value{L: l})
		}
	case api.Kfifo:
		for i, x := range im.Lists[0] {
			m.Force(kfifo.Base+i, cell.Value{N: kfifo.Full, L: []pile.Item{x}})
		}
		m.Force(kfifo.Tail, cell.Value{N: int64(max(0, len(im.Lists[0])-1) / im.Param)})
	case api.Tally:
		for i, n := range im.Counts {
			m.Force(i, cell.Value{N: n})
		}
	case api.Net:
		n, _ := net.New(im.Param)
		for i := range im.Param {
			m.Force(n.Out(i), cell.Value{N: (im.Counts[0] + int64(im.Param-1-i)) / int64(im.Param)})
		}
	}
	return m
}

// P17.1: any image that may be: layer 12 says the same of such a structure; and its shot has that image.
func TestValueAny(t *testing.T) {
	seed, done := uint64(12), 0
	for done < 4000 {
		im := anyImage(&seed)
		if told(im) != api.OK {
			continue
		}
		done++
		m := inMemory(im)
		want, e := value.Of(im.Kind, im.Param, m)
		if v := im.Value(); e != api.OK || !holds(v, want) {
			t.Errorf("Value of %+v: %+v; want %+v", im, v, want)
		}
		im.Clock = m.Clock()
		if got := image.Of(shot(t, on(t, im.Kind, im.Param, m), 1)); !is(got, im) {
			t.Errorf("Of: %+v; want %+v", got, im)
		}
	}
}

// same: what both say of each other; they stay as they are.
func same(t *testing.T, a, b image.Image, want bool) {
	t.Helper()
	wasA, wasB := copied(a), copied(b)
	if a.Same(b) != want || b.Same(a) != want || !a.Same(a) || !b.Same(b) {
		t.Errorf("Same of %+v and %+v: %v, %v; want %v; of themselves %v, %v", a, b, a.Same(b), b.Same(a), want, a.Same(a), b.Same(b))
	}
	if !untouched(a, wasA) || !untouched(b, wasB) {
		t.Errorf("Same: %+v and %+v aren't as they were", wasA, wasB)
	}
}

// P17.1: each part counts; a nil list is an empty one.
func TestSame(t *testing.T) {
	base := image.Image{Kind: api.Multi, Param: 2, Clock: 5, Lists: lists(vals(1, 2), vals(3)), Counts: []int64{4, 5}}
	same(t, base, copied(base), true)
	same(t, image.Image{}, image.Image{}, true)
	same(t, image.Image{}, base, false)
	for i, change := range []func(im *image.Image){
		func(im *image.Image) { im.Kind = api.Kfifo },
		func(im *image.Image) { im.Param = 3 },
		func(im *image.Image) { im.Clock = 6 },
		func(im *image.Image) { im.Clock = 5 + 1<<32 },
		func(im *image.Image) { im.Lists = nil },
		func(im *image.Image) { im.Lists = im.Lists[:1] },
		func(im *image.Image) { im.Lists = append(im.Lists, nil) },
		func(im *image.Image) { im.Lists[0] = im.Lists[0][:1] },
		func(im *image.Image) { im.Lists[1] = nil },
		func(im *image.Image) { im.Lists[1] = vals(3, 3) },
		func(im *image.Image) { im.Lists[0] = vals(2, 1) },
		func(im *image.Image) { im.Lists = lists(vals(1, 2, 3), nil) },
		func(im *image.Image) { im.Lists = lists(vals(1), vals(2, 3)) },
		func(im *image.Image) { im.Lists = lists(vals(3), vals(1, 2)) },
		func(im *image.Image) { im.Lists[1][0].Pri = 1 },
		func(im *image.Image) { im.Lists[1][0].Pri = math.Copysign(0, -1) },
		func(im *image.Image) { im.Lists[1][0].Pri = math.NaN() },
		func(im *image.Image) { im.Lists[1][0].Val = 3 + 1<<32 },
		func(im *image.Image) { im.Counts = nil },
		func(im *image.Image) { im.Counts = []int64{4} },
		func(im *image.Image) { im.Counts = []int64{4, 5, 0} },
		func(im *image.Image) { im.Counts = []int64{5, 4} },
		func(im *image.Image) { im.Counts[1] = 6 },
	} {
		im := copied(base)
		change(&im)
		if is(im, base) {
			t.Fatalf("change %d changes nothing", i)
		}
		same(t, base, im, false)
	}
	no := image.Image{Kind: api.Multi, Param: 1, Lists: lists(nil)}
	same(t, no, image.Image{Kind: api.Multi, Param: 1, Lists: lists([]pile.Item{}), Counts: []int64{}}, true)
	same(t, no, image.Image{Kind: api.Multi, Param: 1}, false)
	same(t, image.Image{Lists: [][]pile.Item{}}, image.Image{}, true)
}

// P17.1: items that are the same are one and the same: a NaN is any other one; others are not.
func TestSameItems(t *testing.T) {
	of := func(f float64) image.Image {
		return image.Image{Kind: api.Kfifo, Param: 2, Lists: lists([]pile.Item{{Pri: 1, Val: 1}, {Pri: f, Val: 2}})}
	}
	all := append(nans(), rising()...)
	for _, f := range all {
		for _, g := range all {
			same(t, of(f), of(g), math.Float64bits(f) == math.Float64bits(g) || math.IsNaN(f) && math.IsNaN(g))
		}
	}
	seed, equal := uint64(4), 0
	for range 40000 {
		a, b := anyImage(&seed), anyImage(&seed)
		if below(&seed, 2) == 0 {
			b = copied(a)
			if l := below(&seed, 3); l < len(b.Lists) && len(b.Lists[l]) > 0 {
				b.Lists[l][0].Pri = rising()[below(&seed, 11)]
			}
		}
		want := is(a, b)
		same(t, a, b, want)
		if want {
			equal++
		}
	}
	if equal < 1000 {
		t.Errorf("only %d were the same", equal)
	}
}

func made(t *testing.T, kind, param int) *scan.Runner {
	t.Helper()
	r, e := scan.New(kind, param)
	if e != api.OK {
		t.Fatalf("New(%d, %d): %d", kind, param, e)
	}
	return r
}

// on: a runner of a structure that has this memory.
func on(t *testing.T, kind, param int, m *cell.Memory) *scan.Runner {
	t.Helper()
	e, err := engine.With(kind, param, m)
	if err != api.OK {
		t.Fatalf("With(%d, %d): %d", kind, param, err)
	}
	return scan.Of(history.Of(e))
}

// shot: what is there, with nobody but the scanner at work, or the threads behind it.
func shot(t *testing.T, r *scan.Runner, tries int) scan.Shot {
	t.Helper()
	if e := r.Start(tries); e != api.OK {
		t.Fatalf("Start: %d", e)
	}
	for r.Scanning() {
		r.Pick(len(r.Busy()))
	}
	s, some := r.Take()
	if !some {
		t.Fatal("Take: there is no snapshot")
	}
	return s
}

// alone: an operation from its begin to its end.
func alone(t *testing.T, r *scan.Runner, o op.Op) {
	t.Helper()
	if e := r.Begin(0, o); e != api.OK {
		t.Fatalf("Begin of %+v: %d", o, e)
	}
	for len(r.Busy()) > 0 {
		r.Pick(0)
	}
}

// P17.2: by hand, of each kind.
func TestOf(t *testing.T) {
	of := func(kind, param int, l ...op.Op) image.Image {
		r := made(t, kind, param)
		for _, o := range l {
			alone(t, r, o)
		}
		return image.Of(shot(t, r, 1))
	}
	put := func(pri float64, n int64, shard int) op.Op {
		return op.Op{Kind: op.Insert, Item: pile.Item{Pri: pri, Val: n}, Draw: [2]int{shard}}
	}
	enq := func(n int64, slot int) op.Op {
		return op.Op{Kind: op.Enq, Item: pile.Item{Val: n}, Draw: [2]int{slot}}
	}
	deq := op.Op{Kind: op.Deq}
	add := func(n int64, shard int) op.Op {
		return op.Op{Kind: op.Add, Item: pile.Item{Val: n}, Draw: [2]int{shard}}
	}
	token := op.Op{Kind: op.Next}
	for i, c := range []struct{ got, want image.Image }{
		{of(api.Multi, 3, put(2, 7, 0), put(1, 8, 2), put(1, 9, 0)), image.Image{Kind: api.Multi, Param: 3, Clock: 3, Lists: lists([]pile.Item{{Pri: 1, Val: 9}, {Pri: 2, Val: 7}}, nil, []pile.Item{{Pri: 1, Val: 8}})}},
		{of(api.Multi, 2, put(2, 7, 1), op.Op{Kind: op.Delete, Draw: [2]int{1, 1}}), image.Image{Kind: api.Multi, Param: 2, Clock: 2, Lists: lists(nil, nil)}},
		{of(api.Kfifo, 2, enq(1, 1), enq(2, 1), enq(3, 0)), image.Image{Kind: api.Kfifo, Param: 2, Clock: 4, Lists: lists(vals(1, 2, 3))}},
		{of(api.Kfifo, 2, enq(9, 1), enq(7, 0), enq(8, 0), deq, deq, deq), image.Image{Kind: api.Kfifo, Param: 2, Clock: 8, Lists: lists(nil)}},
		{of(api.Kfifo, 2, enq(9, 1), enq(7, 0), enq(8, 1), deq, enq(6, 0)), image.Image{Kind: api.Kfifo, Param: 2, Clock: 6, Lists: lists(vals(9, 8, 6))}},
		{of(api.Tally, 3, add(5, 1), add(6, 2), add(7, 1)), image.Image{Kind: api.Tally, Param: 3, Clock: 3, Counts: []int64{0, 12, 6}}},
		{of(api.Net, 2, token, token, token), image.Image{Kind: api.Net, Param: 2, Clock: 6, Counts: []int64{3}}},
		{of(api.Net, 1, token, token), image.Image{Kind: api.Net, Param: 1, Clock: 2, Counts: []int64{2}}},
	} {
		if !is(c.got, c.want) || c.got.Check() != api.OK {
			t.Errorf("Of %d: %+v; want %+v", i, c.got, c.want)
		}
	}
	for _, kind := range kinds() {
		for _, param := range params(kind) {
			if got, want := of(kind, param), empty(kind, param); !is(got, want) || got.Check() != api.OK {
				t.Errorf("Of nothing: %+v; want %+v", got, want)
			}
		}
	}
}

// P17.2: a token under way counts for the clock, not for what went out.
func TestOfTokenUnderWay(t *testing.T) {
	r := made(t, api.Net, 2)
	r.Begin(0, op.Op{Kind: op.Next})
	r.Pick(0)
	want := image.Image{Kind: api.Net, Param: 2, Clock: 1, Counts: []int64{0}}
	if got := image.Of(shot(t, r, 1)); !is(got, want) {
		t.Errorf("Of: %+v; want %+v", got, want)
	}
}

// P17.2: the clock is of what was read, not of the memory: an end that isn't read isn't asked, and with nothing written it is 0.
func TestOfClock(t *testing.T) {
	s := shot(t, made(t, api.Tally, 3), 1)
	if got := image.Of(s); got.Clock != 0 {
		t.Errorf("Of nothing: clock %d", got.Clock)
	}
	m := cell.New()
	for _, i := range []int{1, 0, 1, 2, 0} {
		m.Force(i, cell.Value{N: int64(i)})
	}
	if got := image.Of(shot(t, on(t, api.Tally, 3, m), 1)); got.Clock != 5 {
		t.Errorf("Of: clock %d; want 5", got.Clock)
	}
	m.Force(100, cell.Value{})
	if got := image.Of(shot(t, on(t, api.Tally, 3, m), 1)); got.Clock != 5 {
		t.Errorf("Of: clock %d; want 5, as cell 100 is no shard's", got.Clock)
	}
}

// P17.2: a shot says the least of what is there and it may be, where that isn't too much.
func TestOfTotals(t *testing.T) {
	for _, param := range params(api.Tally) {
		for over := range 2 {
			m := cell.New()
			for i := range param {
				m.Force(i, cell.Value{N: 1<<50/int64(param) + int64(over)})
			}
			m.Force(0, cell.Value{N: m.Read(0).N + 1<<50%int64(param)})
			im := image.Of(shot(t, on(t, api.Tally, param, m), 1))
			if want := []api.Errno{api.OK, api.ErrArg}[over]; im.Check() != want || im.Value().N != 1<<50+int64(param*over) {
				t.Errorf("Tally %d: %+v, %d; want %d", param, im, im.Check(), want)
			}
		}
	}
	for _, width := range params(api.Net) {
		for over := range 2 {
			m := inMemory(image.Image{Kind: api.Net, Param: width, Counts: []int64{1<<50 + int64(over)}})
			im := image.Of(shot(t, on(t, api.Net, width, m), 1))
			if want := []api.Errno{api.OK, api.ErrArg}[over]; im.Check() != want || !slices.Equal(im.Counts, []int64{1<<50 + int64(over)}) {
				t.Errorf("Net %d: %+v, %d; want %d", width, im, im.Check(), want)
			}
		}
	}
}

// P17.2: structures with no room left.
func TestOfFull(t *testing.T) {
	for _, kind := range []int{api.Multi, api.Kfifo} {
		for _, param := range []int{1, 3, 16} {
			r := made(t, kind, param)
			ops, room := op.Of(kind), image.Room(param)
			if kind == api.Multi {
				room = param * api.MaxShard
			}
			for i := range room + 1 {
				alone(t, r, op.Op{Kind: ops[0], Item: pile.Item{Pri: float64(i % 7), Val: int64(i)}, Draw: [2]int{i, i}})
			}
			s := shot(t, r, 1)
			im := image.Of(s)
			if im.Check() != api.OK || len(im.Value().Items) != room || !holds(im.Value(), s.Value()) || im.Clock != r.Memory().Clock() {
				t.Errorf("kind %d, %d: %d, %d items, clock %d; want %d, %d", kind, param, im.Check(), len(im.Value().Items), im.Clock, room, r.Memory().Clock())
			}
		}
	}
}

// toldOf: what the chapter says of a shot's image.
func toldOf(s scan.Shot) image.Image {
	im := image.Image{Kind: s.Kind, Param: s.Param}
	var full []scan.Seen
	for _, c := range s.Cells {
		im.Clock = max(im.Clock, c.Ver)
		switch {
		case s.Kind == api.Multi:
			im.Lists = append(im.Lists, c.L)
		case s.Kind == api.Tally:
			im.Counts = append(im.Counts, c.N)
		case s.Kind == api.Kfifo && c.At >= kfifo.Base && c.N == kfifo.Full:
			full = append(full, c)
		}
	}
	if s.Kind == api.Kfifo {
		slices.SortFunc(full, func(c, d scan.Seen) int { return int(int64(c.Ver - d.Ver)) })
		im.Lists = make([][]pile.Item, 1)
		for _, c := range full {
			im.Lists[0] = append(im.Lists[0], c.L[0])
		}
	}
	if s.Kind == api.Net {
		n, _ := net.New(s.Param)
		im.Counts = make([]int64, 1)
		for _, c := range s.Cells {
			if c.At >= n.Out(0) {
				im.Counts[0] += c.N
			}
		}
	}
	return im
}

func anyOp(seed *uint64, kind int) op.Op {
	ops := op.Of(kind)
	return op.Op{Kind: ops[below(seed, len(ops))], Item: pile.Item{Pri: append(rising(), nans()...)[below(seed, 16)], Val: int64(below(seed, 5))}, Draw: [2]int{below(seed, 40) - 20, below(seed, 40) - 20}}
}

// P17.2: behind any runs: a shot's image has what was read, may be, and is what the engine held when its clock was that.
func TestOfRuns(t *testing.T) {
	seed, quiet := uint64(171), 0
	for _, kind := range kinds() {
		for _, param := range params(kind) {
			r := made(t, kind, param)
			held := []value.Value{r.Value()}
			for range 1500 {
				r.Begin(below(&seed, api.MaxThreads), anyOp(&seed, kind))
				if below(&seed, 30) == 0 {
					r.Start(1 + below(&seed, 3))
				}
				pick := below(&seed, 7)
				if below(&seed, 2) == 0 {
					pick = len(r.Busy())
				}
				r.Pick(pick)
				if r.Memory().Clock() == uint64(len(held)) {
					held = append(held, r.Value())
				}
				s, some := r.Take()
				if !some {
					continue
				}
				if s.Quiet {
					quiet++
				}
				im := image.Of(s)
				if want := toldOf(s); !is(im, want) || im.Check() != api.OK || !holds(im.Value(), s.Value()) || !holds(im.Value(), held[im.Clock]) {
					t.Fatalf("Of(%+v): %+v, %d; want %+v", s, im, im.Check(), want)
				}
				apart(t, s, im)
			}
		}
	}
	if quiet < 50 {
		t.Errorf("only %d shots were quiet", quiet)
	}
}

// apart: K3: a shot stays as it is, whatever becomes of its image; and the other way round.
func apart(t *testing.T, s scan.Shot, im image.Image) {
	t.Helper()
	was, wasShot := copied(im), image.Of(s)
	for _, l := range im.Lists {
		spoil(l)
	}
	for i := range im.Counts {
		im.Counts[i] = -77
	}
	if again := image.Of(s); !untouched(again, was) || !untouched(wasShot, was) {
		t.Fatalf("Of(%+v): %+v; was %+v", s, again, was)
	}
	for _, c := range s.Cells {
		spoil(c.L)
	}
	if !untouched(wasShot, was) {
		t.Fatalf("Of: the shot shares memory with %+v; was %+v", wasShot, was)
	}
}

// P1: nothing panics, whatever an image, or a shot, is.
func TestNeverPanics(t *testing.T) {
	for _, im := range []image.Image{{}, {Kind: api.Net}, {Kind: api.Multi, Param: -1}, {Kind: api.Kfifo, Param: 1, Counts: []int64{math.MaxInt64, 1}}, {Kind: 9, Lists: lists(vals(1))}} {
		im.Check()
		im.Value()
		im.Same(image.Image{})
	}
	if im := image.Of(scan.Shot{}); !reflect.DeepEqual(im, image.Image{}) {
		t.Errorf("Of no shot: %+v", im)
	}
}
