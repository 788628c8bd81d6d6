package spread_test

import (
	"math"
	"reflect"
	"slices"
	"testing"

	"carryover/api"
	"carryover/cell"
	"carryover/engine"
	"carryover/history"
	"carryover/image"
	"carryover/kfifo"
	"carryover/lax"
	"carryover/net"
	"carryover/op"
	"carryover/pile"
	"carryover/spread"
	"carryover/value"
	"carryover/wire"
)

// next: numbers that look like chance, the same ones each time.
func next(seed *uint64) uint64 {
	*seed = *seed*6364136223846793005 + 1442695040888963407
	x := *seed ^ *seed>>29
	return x * 0x9e3779b97f4a7c15 >> 16
}

func below(seed *uint64, n int) int {
	return int(next(seed) % uint64(n))
}

func kinds() []int {
	return []int{api.Multi, api.Kfifo, api.Tally, api.Net}
}

// params: all that a kind may have.
func params(kind int) (l []int) {
	for param := 1; param <= api.MaxParam; param++ {
		if op.Legal(kind, param) == api.OK {
			l = append(l, param)
		}
	}
	return l
}

// noParams: none that a kind may have.
func noParams(kind int) []int {
	l := []int{0, 17, 18, 32, -1, -2, -16, 1000, 1 << 32, 1<<32 + 1, math.MinInt, math.MaxInt}
	if kind == api.Net {
		l = append(l, 3, 5, 6, 7, 9, 10, 12, 15)
	}
	return l
}

// nans: of many bits; all of them are the same, and behind all others.
func nans() []float64 {
	return []float64{math.NaN(), math.Float64frombits(0x7ff8000000000000), math.Float64frombits(0x7ff0000000000001), math.Float64frombits(0xfff8000000000000), math.Float64frombits(math.MaxUint64)}
}

// rising: priorities in order, each its own.
func rising() []float64 {
	return []float64{math.Inf(-1), -math.MaxFloat64, -1, -math.SmallestNonzeroFloat64, math.Copysign(0, -1), 0, math.SmallestNonzeroFloat64, 1, math.MaxFloat64, math.Inf(1), math.NaN()}
}

// exact: the same one, bit by bit.
func exact(x, y pile.Item) bool {
	return math.Float64bits(x.Pri) == math.Float64bits(y.Pri) && x.Val == y.Val
}

func one(x, y pile.Item) bool {
	return x.Cmp(y) == 0
}

// like: has an image all that another one has, its items as same says?
func like(im, other image.Image, same func(x, y pile.Item) bool) bool {
	if im.Kind != other.Kind || im.Param != other.Param || im.Clock != other.Clock || !slices.Equal(im.Counts, other.Counts) {
		return false
	}
	return slices.EqualFunc(im.Lists, other.Lists, func(l, m []pile.Item) bool { return slices.EqualFunc(l, m, same) })
}

func is(im, other image.Image) bool {
	return like(im, other, one)
}

// untouched: is an image, bit by bit, what it was?
func untouched(im, was image.Image) bool {
	return like(im, was, exact)
}

func holds(v, w value.Value) bool {
	return v.Kind == w.Kind && v.N == w.N && slices.EqualFunc(v.Items, w.Items, one)
}

// copied: all of it, sharing nothing.
func copied(im image.Image) image.Image {
	lists := make([][]pile.Item, len(im.Lists))
	for i, l := range im.Lists {
		lists[i] = slices.Clone(l)
	}
	im.Lists, im.Counts = lists, slices.Clone(im.Counts)
	return im
}

// spoil: whoever shares memory with it isn't what he was.
func spoil(l []pile.Item) {
	for i := range l[:cap(l)] {
		l[:cap(l)][i] = pile.Item{Pri: -77, Val: -77}
	}
}

func spoilAll(im image.Image) {
	for _, l := range im.Lists {
		spoil(l)
	}
	for i := range im.Counts[:cap(im.Counts)] {
		im.Counts[:cap(im.Counts)][i] = -77
	}
}

// vals: items of these numbers.
func vals(l ...int64) (out []pile.Item) {
	for _, n := range l {
		out = append(out, pile.Item{Val: n})
	}
	return out
}

// pris: items of these priorities.
func pris(l ...float64) (out []pile.Item) {
	for _, f := range l {
		out = append(out, pile.Item{Pri: f})
	}
	return out
}

func lists(l ...[]pile.Item) [][]pile.Item {
	return l
}

func multi(l ...[]pile.Item) image.Image {
	return image.Image{Kind: api.Multi, Param: len(l), Clock: 71, Lists: l}
}

func queue(k int, l []pile.Item) image.Image {
	return image.Image{Kind: api.Kfifo, Param: k, Clock: 72, Lists: lists(l)}
}

func tally(l ...int64) image.Image {
	return image.Image{Kind: api.Tally, Param: len(l), Clock: 73, Counts: l}
}

func network(width int, n int64) image.Image {
	return image.Image{Kind: api.Net, Param: width, Clock: 74, Counts: []int64{n}}
}

// empty: an image of a structure in which nothing is.
func empty(kind, param int) image.Image {
	l, c := image.Shape(kind, param)
	return image.Image{Kind: kind, Param: param, Lists: make([][]pile.Item, l), Counts: make([]int64, c)}
}

// rows: so many items, the least first.
func rows(n int) []pile.Item {
	l := make([]pile.Item, n)
	for i := range l {
		l[i] = pile.Item{Pri: float64(i / 3), Val: int64(i)}
	}
	return l
}

// full: an image of a Multi with so many items, in as many shards as it takes, and no less than these.
func full(items, shards int) image.Image {
	var l [][]pile.Item
	for rest := rows(items); len(rest) > 0; {
		n := min(len(rest), api.MaxShard)
		l, rest = append(l, rest[:n]), rest[n:]
	}
	for len(l) < shards {
		l = append(l, nil)
	}
	return multi(l...)
}

// wrong: images that may not be, each with its error.
func wrong() map[api.Errno][]image.Image {
	return map[api.Errno][]image.Image{
		api.ErrKind:  {{}, {Kind: 5, Param: 1}, {Kind: -1, Param: 2, Counts: []int64{1}}, {Kind: math.MaxInt, Param: 1, Lists: lists(nil)}},
		api.ErrParam: {multi(), tally(), {Kind: api.Multi, Param: 17, Lists: make([][]pile.Item, 17)}, queue(0, nil), queue(-1, nil), queue(17, nil), network(3, 5), network(0, 5), network(32, 5)},
		api.ErrForm:  {{Kind: api.Multi, Param: 2}, {Kind: api.Kfifo, Param: 2}, {Kind: api.Tally, Param: 2}, {Kind: api.Net, Param: 2}, {Kind: api.Net, Param: 2, Counts: []int64{1, 2}}, {Kind: api.Kfifo, Param: 2, Lists: lists(nil, nil)}, {Kind: api.Tally, Param: 1, Counts: []int64{1}, Lists: lists(nil)}},
		api.ErrBig:   {multi(rows(63)), multi(nil, rows(63)), queue(1, rows(1001)), queue(16, rows(1001))},
		api.ErrOrder: {multi(pris(2, 1)), multi(nil, vals(1, 0))},
		api.ErrArg:   {tally(-1), tally(0, 1<<50+1), tally(1<<50, 1), network(1, -1), network(16, 1<<50+1)},
	}
}

// deal: Deal answers that, in lists that are their own, and what it was handed stays as it is.
func deal(t *testing.T, l []pile.Item, n int, want [][]pile.Item) {
	t.Helper()
	was := slices.Clone(l)
	got := spread.Deal(l, n)
	alike := slices.EqualFunc(got, want, func(x, y []pile.Item) bool { return slices.EqualFunc(x, y, exact) })
	if !alike || !slices.EqualFunc(l, was, exact) {
		t.Fatalf("Deal of %+v round %d: %+v; want %+v; they are now %+v", was, n, got, want, l)
	}
	for i := range got {
		spoil(got[i])
		for k := i + 1; k < len(got); k++ {
			if !slices.EqualFunc(got[k], want[k], exact) {
				t.Fatalf("Deal of %+v round %d: list %d shares memory with list %d", was, n, k, i)
			}
		}
	}
	if !slices.EqualFunc(l, was, exact) {
		t.Fatalf("Deal of %+v round %d: a list shares memory with what was dealt", was, n)
	}
}

// P18.1: one by one, round the lists; as they stand, whatever their order; below 1 none.
func TestDeal(t *testing.T) {
	deal(t, vals(1, 2, 3, 4, 5, 6, 7), 3, lists(vals(1, 4, 7), vals(2, 5), vals(3, 6)))
	deal(t, vals(5, 1, 4, 1), 2, lists(vals(5, 4), vals(1, 1)))
	deal(t, vals(5, 1, 4, 1), 1, lists(vals(5, 1, 4, 1)))
	deal(t, vals(5, 1), 4, lists(vals(5), vals(1), nil, nil))
	deal(t, nil, 3, lists(nil, nil, nil))
	deal(t, []pile.Item{}, 1, lists(nil))
	deal(t, pris(nans()...), 2, lists(pris(nans()[0], nans()[2], nans()[4]), pris(nans()[1], nans()[3])))
	deal(t, pris(0, math.Copysign(0, -1)), 1, lists(pris(0, math.Copysign(0, -1))))
	for _, n := range []int{0, -1, -2, -16, math.MinInt} {
		deal(t, vals(1, 2, 3), n, nil)
		deal(t, nil, n, nil)
	}
}

// P18.1: any items round any lists: the i-th one is the one behind each full round in list i.
func TestDealAny(t *testing.T) {
	seed := uint64(18)
	for n := 1; n < 40; n++ {
		for range 30 {
			var l []pile.Item
			for range below(&seed, 90) {
				l = append(l, anyItem(&seed))
			}
			want := make([][]pile.Item, n)
			for i := range want {
				for at := i; at < len(l); at += n {
					want[i] = append(want[i], l[at])
				}
			}
			deal(t, l, n, want)
		}
	}
}

func anyItem(seed *uint64) pile.Item {
	return pile.Item{Pri: append(rising(), nans()...)[below(seed, 16)], Val: int64(below(seed, 4))}
}

// to: To answers that, and its image stays as it is.
func to(t *testing.T, im image.Image, param int, want image.Image, err api.Errno) {
	t.Helper()
	was := copied(im)
	got, e := spread.To(im, param)
	if e != err || !is(got, want) || !untouched(im, was) {
		t.Fatalf("To of %+v, %d: %+v, %d; want %+v, %d; it is now %+v", was, param, got, e, want, err, im)
	}
}

// P18.1: an image that may not be comes first, whichever parameter it is to have, then that; beside them nothing.
func TestToErrors(t *testing.T) {
	for err, l := range wrong() {
		for _, im := range l {
			for _, param := range append([]int{1, 2, 16, im.Param}, noParams(api.Net)...) {
				to(t, im, param, image.Image{}, err)
			}
		}
	}
	for _, kind := range kinds() {
		for _, param := range noParams(kind) {
			for _, own := range params(kind) {
				to(t, empty(kind, own), param, image.Image{}, api.ErrParam)
			}
		}
	}
	to(t, full(992, 16), 17, image.Image{}, api.ErrParam)
	to(t, queue(1, rows(1000)), 0, image.Image{}, api.ErrParam)
}

// P18.1: items for which there is no room under another parameter; its own one isn't another.
func TestToBig(t *testing.T) {
	for param := 1; param <= 16; param++ {
		most := param * 62
		if param < 16 {
			im := full(most+1, 0)
			to(t, im, param, image.Image{}, api.ErrBig)
			to(t, im, im.Param, im, api.OK)
		}
		if got, e := spread.To(full(most, 16), param); e != api.OK || got.Check() != api.OK || len(got.Value().Items) != most {
			t.Errorf("To of a Multi of %d items, %d: %d", most, param, e)
		}
		room := image.Room(param)
		for own := 1; own <= 16; own++ {
			for _, items := range []int{room + 1, 1000} {
				if own == param {
					to(t, queue(own, rows(items)), param, queue(own, rows(items)), api.OK)
				} else {
					to(t, queue(own, rows(items)), param, image.Image{}, api.ErrBig)
				}
			}
			to(t, queue(own, rows(room)), param, queue(param, rows(room)), api.OK)
		}
	}
	to(t, queue(16, rows(998)), 1, queue(1, rows(998)), api.OK) // more than its own room
	to(t, queue(16, rows(998)), 4, image.Image{}, api.ErrBig)
}

// P18.1: by hand, of each kind; the clock stays.
func TestTo(t *testing.T) {
	to(t, tally(7, 0), 3, tally(3, 2, 2), api.OK)
	to(t, tally(0, 0, 5, 0), 2, tally(3, 2), api.OK)
	to(t, tally(2, 1, 0), 1, tally(3), api.OK)
	to(t, tally(0), 3, tally(0, 0, 0), api.OK)
	to(t, tally(1<<50), 3, tally(375299968947542, 375299968947541, 375299968947541), api.OK)
	to(t, tally(1<<49, 1<<49), 1, tally(1<<50), api.OK)
	to(t, network(2, 7), 8, network(8, 7), api.OK)
	to(t, network(16, 1<<50), 1, network(1, 1<<50), api.OK)
	to(t, multi(vals(1, 2, 3)), 2, multi(vals(1, 3), vals(2)), api.OK)
	to(t, multi(vals(1, 9), vals(2, 8), vals(3, 7)), 2, multi(vals(1, 3, 8), vals(2, 7, 9)), api.OK)
	to(t, multi(vals(4), nil, vals(1, 4)), 1, multi(vals(1, 4, 4)), api.OK)
	to(t, multi(pris(math.NaN()), pris(0), pris(math.Copysign(0, -1)), pris(math.Inf(-1))), 2, multi(pris(math.Inf(-1), 0), pris(math.Copysign(0, -1), math.NaN())), api.OK)
	to(t, multi(nil, nil), 4, multi(nil, nil, nil, nil), api.OK)
	to(t, queue(3, vals(5, 1, 4, 2)), 2, queue(2, vals(5, 1, 4, 2)), api.OK)
	to(t, queue(3, nil), 16, queue(16, nil), api.OK)
	im := queue(3, vals(1))
	im.Clock = math.MaxUint64
	if got, e := spread.To(im, 5); e != api.OK || got.Clock != math.MaxUint64 || got.Param != 5 {
		t.Errorf("To: %+v, %d", got, e)
	}
}

// P18.4: to its own parameter it is the same, however its items and counts lie.
func TestToOwn(t *testing.T) {
	for _, im := range []image.Image{
		tally(7, 0), tally(0, 0, 1<<50), network(4, 7), network(1, 0),
		multi(vals(1, 2, 3), nil), multi(nil, vals(1, 2), vals(1)), multi(pris(nans()...)),
		queue(4, vals(5, 1, 4, 2)), queue(1, pris(nans()...)), queue(16, rows(1000)),
	} {
		to(t, im, im.Param, im, api.OK)
	}
	seed := uint64(184)
	for range 4000 {
		im := anyImage(&seed)
		to(t, im, im.Param, im, api.OK)
	}
}

// anyImage: one that may be.
func anyImage(seed *uint64) image.Image {
	kind := kinds()[below(seed, 4)]
	im := empty(kind, params(kind)[below(seed, len(params(kind)))])
	im.Clock = next(seed)
	for i := range im.Lists {
		for range below(seed, []int{0, 4, 12, 63}[1+below(seed, 3)]) {
			im.Lists[i] = append(im.Lists[i], anyItem(seed))
		}
		if kind == api.Multi {
			slices.SortFunc(im.Lists[i], pile.Item.Cmp)
		}
	}
	for i := range im.Counts {
		im.Counts[i] = int64(next(seed) % ([]uint64{4, 100, 1<<50/16 + 1}[below(seed, 3)]))
	}
	return im
}

// told: what the chapter says of an image that may be, under a parameter that may be.
func told(im image.Image, param int) (image.Image, api.Errno) {
	if param == im.Param {
		return im, api.OK
	}
	out := image.Image{Kind: im.Kind, Param: param, Clock: im.Clock, Lists: im.Lists, Counts: im.Counts}
	switch im.Kind {
	case api.Multi:
		l := pile.New(slices.Concat(im.Lists...)...)
		if l.Count() > 62*param {
			return image.Image{}, api.ErrBig
		}
		out.Lists = make([][]pile.Item, param)
		for i := 0; l.Count() > 0; i++ {
			x, _ := l.Take()
			out.Lists[i%param] = append(out.Lists[i%param], x)
		}
	case api.Kfifo:
		if len(im.Lists[0]) > 998/param*param {
			return image.Image{}, api.ErrBig
		}
	case api.Tally:
		all := int64(0)
		for _, n := range im.Counts {
			all += n
		}
		out.Counts = make([]int64, param)
		for i := range out.Counts {
			out.Counts[i] = (all + int64(param-1-i)) / int64(param)
		}
	}
	return out, api.OK
}

// P18.1, P18.2: any images under all parameters, beside the chapter's words: what comes of them may be, and says the same.
func TestToAny(t *testing.T) {
	seed, big := uint64(181), 0
	for range 3000 {
		im := anyImage(&seed)
		for _, param := range params(im.Kind) {
			want, err := told(im, param)
			to(t, im, param, want, err)
			if err != api.OK {
				big++
				continue
			}
			got, _ := spread.To(im, param)
			if got.Check() != api.OK || !holds(got.Value(), im.Value()) {
				t.Fatalf("To of %+v, %d: %+v, Check says %d", im, param, got, got.Check())
			}
		}
	}
	if big < 100 {
		t.Errorf("only %d had no room", big)
	}
}

// written: a cell that was written, and what is in it then.
type written struct {
	at int
	n  int64
	l  []pile.Item
}

// laid: what the chapter says of an image that may be, write by write.
func laid(im image.Image) (out []written) {
	switch im.Kind {
	case api.Multi:
		for i, l := range im.Lists {
			out = append(out, written{at: i, l: l})
		}
	case api.Kfifo:
		for i, x := range im.Lists[0] {
			out = append(out, written{at: 2 + i, n: 1, l: []pile.Item{x}})
		}
		if items := len(out); items > 0 {
			out = append(out, written{at: 1, n: int64((items - 1) / im.Param)})
		}
	case api.Tally:
		for i, n := range im.Counts {
			out = append(out, written{at: i, n: n})
		}
	case api.Net:
		plan, _ := wire.Make(im.Param)
		gates, outs := plan.Pass(wire.Even(im.Counts[0], im.Param))
		for i, n := range append(gates, outs...) {
			out = append(out, written{at: i, n: n})
		}
	}
	return out
}

// canonical: of which all items are.
func canonical(l []pile.Item) []pile.Item {
	out := slices.Clone(l)
	for i, x := range out {
		out[i] = x.Canon()
	}
	return out
}

// has: has a memory all that was written, one behind the other, bit by bit, its items canonical; and nothing else?
func has(m *cell.Memory, l []written) bool {
	want, length := map[int]cell.Cell{}, 0
	for i, w := range l {
		want[w.at] = cell.Cell{Ver: uint64(i + 1), Value: cell.Value{N: w.n, L: canonical(w.l)}}
		length = max(length, w.at+1)
	}
	for i := range api.MaxCells {
		c := m.Read(i)
		if c.Ver != want[i].Ver || c.N != want[i].N || !slices.EqualFunc(c.L, want[i].L, exact) {
			return false
		}
	}
	return m.Clock() == uint64(len(l)) && m.Len() == length
}

// lays: Lay has these cells written; its image stays as it is, and what becomes of that changes nothing.
func lays(t *testing.T, im image.Image, want ...written) {
	t.Helper()
	was := copied(im)
	m, err := spread.Lay(im)
	if err != api.OK || m == nil || !has(m, want) || !untouched(im, was) {
		t.Fatalf("Lay of %+v: %+v, %d; want %+v", was, m, err, want)
	}
	if v, e := value.Of(im.Kind, im.Param, m); e != api.OK || !holds(v, im.Value()) {
		t.Fatalf("Lay of %+v: it holds %+v, %d", was, v, e)
	}
	other := copied(im)
	m, _ = spread.Lay(other)
	spoilAll(other)
	if !has(m, want) {
		t.Fatalf("Lay of %+v: the memory shares something with the image", was)
	}
}

// P18.1: cell by cell, by hand, of each kind; also what is 0 and what has no items is written.
func TestLay(t *testing.T) {
	shard := func(at int, l ...int64) written { return written{at: at, l: vals(l...)} }
	slot := func(at int, n int64) written { return written{at: at, n: 1, l: vals(n)} }
	count := func(at int, n int64) written { return written{at: at, n: n} }
	lays(t, multi(vals(1, 3), nil, vals(2)), shard(0, 1, 3), shard(1), shard(2, 2))
	lays(t, multi(nil), shard(0))
	lays(t, queue(2, nil))
	lays(t, queue(16, nil))
	lays(t, queue(2, vals(5)), slot(2, 5), count(1, 0))
	lays(t, queue(2, vals(5, 1)), slot(2, 5), slot(3, 1), count(1, 0))
	lays(t, queue(2, vals(5, 1, 4)), slot(2, 5), slot(3, 1), slot(4, 4), count(1, 1))
	lays(t, queue(1, vals(5, 1, 5)), slot(2, 5), slot(3, 1), slot(4, 5), count(1, 2))
	lays(t, queue(3, vals(1, 2, 3, 4, 5, 6)), slot(2, 1), slot(3, 2), slot(4, 3), slot(5, 4), slot(6, 5), slot(7, 6), count(1, 1))
	lays(t, tally(3, 0, 1<<50-3), count(0, 3), count(1, 0), count(2, 1<<50-3))
	lays(t, tally(0), count(0, 0))
	lays(t, network(1, 7), count(0, 7))
	lays(t, network(2, 7), count(0, 7), count(1, 4), count(2, 3))
	lays(t, network(2, 0), count(0, 0), count(1, 0), count(2, 0))
	lays(t, network(4, 7), count(0, 4), count(1, 3), count(2, 3), count(3, 4), count(4, 4), count(5, 3), count(6, 2), count(7, 2), count(8, 2), count(9, 1))
	lays(t, network(4, 1), count(0, 1), count(1, 0), count(2, 1), count(3, 0), count(4, 1), count(5, 0), count(6, 1), count(7, 0), count(8, 0), count(9, 0))
}

// P18.1: items that aren't canonical are, in a memory, as those are that came there by an operation.
func TestLayCanonical(t *testing.T) {
	lays(t, multi(pris(append([]float64{math.Copysign(0, -1), 0}, nans()...)...)), written{at: 0, l: pris(math.Copysign(0, -1), 0, math.NaN(), math.NaN(), math.NaN(), math.NaN(), math.NaN())})
	for _, f := range nans() {
		lays(t, queue(3, pris(f)), written{at: 2, n: 1, l: pris(math.NaN())}, written{at: 1})
		for kind, m := range map[int]*cell.Memory{api.Multi: memory(t, multi(pris(f))), api.Kfifo: memory(t, queue(1, pris(f)))} {
			at := map[int]int{api.Multi: 0, api.Kfifo: kfifo.Base}[kind]
			if bits := math.Float64bits(m.Read(at).L[0].Pri); bits != 0x7ff8000000000000 {
				t.Errorf("Lay of %x: %x", math.Float64bits(f), bits)
			}
		}
	}
}

func memory(t *testing.T, im image.Image) *cell.Memory {
	t.Helper()
	m, err := spread.Lay(im)
	if err != api.OK {
		t.Fatalf("Lay of %+v: %d", im, err)
	}
	return m
}

// P18.1: an image that may not be, then a queue without room for its items: of its own parameter too; nil beside the error.
func TestLayErrors(t *testing.T) {
	refused := func(im image.Image, want api.Errno) {
		was := copied(im)
		if m, err := spread.Lay(im); err != want || m != nil || !untouched(im, was) {
			t.Errorf("Lay of %+v: %d, %v; want %d", im, err, m, want)
		}
		if e, err := spread.Engine(im, im.Param); err != want || e != nil || !untouched(im, was) {
			t.Errorf("Engine of %+v: %d, %v; want %d", im, err, e, want)
		}
	}
	for err, l := range wrong() {
		for _, im := range l {
			refused(im, err)
		}
	}
	for k := 1; k <= 16; k++ {
		room := image.Room(k)
		for items := room + 1; items <= 1000; items++ {
			refused(queue(k, rows(items)), api.ErrBig)
		}
		refused(queue(k, rows(1001)), api.ErrBig)
		lays(t, queue(k, rows(room)), laid(queue(k, rows(room)))...)
		if m := memory(t, queue(k, rows(room))); m.Len() != 2+room || m.Read(kfifo.Tail).N != int64(room/k-1) {
			t.Errorf("Lay of a full queue with %d slots: %d cells, the Tail is %+v", k, m.Len(), m.Read(kfifo.Tail))
		}
	}
	for param := 1; param <= 16; param++ {
		im := full(62*param, 0)
		lays(t, im, laid(im)...)
	}
}

// P18.1, P18.2: any images, beside the chapter's words; as they are, and under all parameters.
func TestLayAny(t *testing.T) {
	seed := uint64(182)
	for range 1000 {
		im := anyImage(&seed)
		for _, param := range params(im.Kind) {
			if other, err := spread.To(im, param); err == api.OK {
				lays(t, other, laid(other)...)
			}
		}
	}
}

// P18.1: the gates of a network, and its places, are as if so many tokens had come upon its wires by turns.
func TestLayTokens(t *testing.T) {
	for _, width := range params(api.Net) {
		n, _ := net.New(width)
		m := cell.New()
		for tokens := range 5*width + 3 {
			got := memory(t, network(width, int64(tokens)))
			for i := range n.Out(width) {
				if got.Read(i).N != m.Read(i).N {
					t.Errorf("Lay of %d tokens, width %d: cell %d is %d; want %d", tokens, width, i, got.Read(i).N, m.Read(i).N)
				}
			}
			if got.Len() != n.Out(width) {
				t.Errorf("Lay of %d tokens, width %d: %d cells", tokens, width, got.Len())
			}
			op.Alone(n, m, op.Op{Kind: op.Next, Draw: [2]int{tokens}}, 100)
		}
	}
	for _, width := range params(api.Net) {
		m := memory(t, network(width, 1<<50))
		for i := range m.Len() {
			if c := m.Read(i); c.N != 1<<50/int64(width) && c.N != 2<<50/int64(width) {
				t.Errorf("Lay of 2^50 tokens, width %d: cell %d is %d", width, i, c.N)
			}
		}
	}
}

// made: Engine answers one in which all is as it begins.
func made(t *testing.T, im image.Image, param int) *engine.Engine {
	t.Helper()
	was := copied(im)
	e, err := spread.Engine(im, param)
	if err != api.OK || e == nil || !untouched(im, was) {
		t.Fatalf("Engine of %+v, %d: %d", was, param, err)
	}
	if e.Kind() != im.Kind || e.Param() != param || e.Steps() != 0 || e.Closed() || len(e.Busy()) != 0 {
		t.Fatalf("Engine of %+v, %d: kind %d, param %d, %d steps, closed %v, busy %v", was, param, e.Kind(), e.Param(), e.Steps(), e.Closed(), e.Busy())
	}
	if _, some := e.Pick(0); some {
		t.Fatalf("Engine of %+v, %d: somebody is busy", was, param)
	}
	return e
}

// P18.1: To's error, nil beside it, whatever Lay would say; Lay's own ones are asked above.
func TestEngineErrors(t *testing.T) {
	refused := func(im image.Image, param int, want api.Errno) {
		t.Helper()
		was := copied(im)
		if e, err := spread.Engine(im, param); err != want || e != nil || !untouched(im, was) {
			t.Errorf("Engine of %+v, %d: %d, %v; want %d", was, param, err, e, want)
		}
	}
	for err, l := range wrong() {
		for _, im := range l {
			for _, param := range []int{0, 1, 2, 16, 17, -1} {
				refused(im, param, err)
			}
		}
	}
	for _, kind := range kinds() {
		for _, param := range noParams(kind) {
			refused(empty(kind, 1), param, api.ErrParam)
		}
	}
	refused(queue(16, rows(1000)), 0, api.ErrParam)
	refused(queue(16, rows(1000)), 16, api.ErrBig)
	refused(queue(16, rows(998)), 16, api.ErrBig)
	refused(queue(2, rows(998)), 16, api.ErrBig)
	refused(full(63, 2), 1, api.ErrBig)
	refused(full(992, 16), 15, api.ErrBig)
}

// P18.1, P18.2: any images under all parameters: the engine has what Lay lays of what To answers, and holds what the image says.
func TestEngineAny(t *testing.T) {
	seed := uint64(183)
	for range 800 {
		im := anyImage(&seed)
		for _, param := range params(im.Kind) {
			want, err := told(im, param)
			if err != api.OK {
				if e, got := spread.Engine(im, param); got != err || e != nil {
					t.Fatalf("Engine of %+v, %d: %d; want %d", im, param, got, err)
				}
				continue
			}
			e := made(t, im, param)
			if !has(e.Memory(), laid(want)) || !holds(e.Value(), im.Value()) {
				t.Fatalf("Engine of %+v, %d: it has %+v", im, param, e.Memory())
			}
		}
	}
}

// K3: an engine and its image go their own ways; so do two engines of one image.
func TestApart(t *testing.T) {
	seed := uint64(185)
	for range 300 {
		im := anyImage(&seed)
		was, first := copied(im), im.Value()
		for _, param := range []int{im.Param, 1} {
			want, err := told(was, param)
			if err != api.OK {
				continue
			}
			e, twin := made(t, im, param), made(t, im, param)
			for thread := range 60 {
				e.Begin(thread%6, anyOp(&seed, im.Kind, 0))
				e.Pick(thread)
			}
			if !untouched(im, was) || !has(twin.Memory(), laid(want)) {
				t.Fatalf("Engine of %+v, %d: its threads change the image, or another engine", was, param)
			}
			spoilAll(im)
			if !has(twin.Memory(), laid(want)) || !holds(twin.Value(), first) {
				t.Fatalf("Engine of %+v, %d: the image shares memory with it", was, param)
			}
			im = copied(was)
		}
	}
}

// anyOp: of a few items, so that many are the same, or of those that are their own; draws of all sorts.
func anyOp(seed *uint64, kind int, own int64) op.Op {
	l, draws := op.Of(kind), []int{0, 1, -1, 5, math.MinInt, math.MaxInt, below(seed, 40)}
	o := op.Op{Kind: l[below(seed, len(l))], Item: anyItem(seed)}
	if own > 0 {
		o.Val = own
	}
	o.Draw = [2]int{draws[below(seed, 7)], draws[below(seed, 7)]}
	return o
}

// alone: an operation from its begin to its end.
func alone(t *testing.T, e *engine.Engine, o op.Op) op.Answer {
	t.Helper()
	if err := e.Begin(0, o); err != api.OK {
		t.Fatalf("Begin of %+v: %d", o, err)
	}
	for {
		if v, _ := e.Pick(0); v.Done {
			return v.Answer
		}
	}
}

// P18.3: by hand: what threads do goes on where the image ends.
func TestGoesOn(t *testing.T) {
	for _, own := range params(api.Net) {
		for _, width := range params(api.Net) {
			for n := range int64(2*width + 2) {
				e := made(t, network(own, n), width)
				for i := range 2*width + 1 {
					if a := alone(t, e, op.Op{Kind: op.Next, Draw: [2]int{7 * i * i}}); !a.Ok || a.N != n+int64(i) {
						t.Errorf("%d of width %d under %d: Next %d is %+v", n, own, width, i, a)
					}
				}
			}
		}
	}
	e := made(t, tally(7, 0), 3)
	alone(t, e, op.Op{Kind: op.Add, Item: pile.Item{Val: 5}, Draw: [2]int{2}})
	if a := alone(t, e, op.Op{Kind: op.Sum}); a.N != 12 || e.Memory().Read(2).N != 7 {
		t.Errorf("Sum: %+v, shard 2 is %+v", a, e.Memory().Read(2))
	}
	e = made(t, multi(vals(1, 2), vals(3)), 3)
	for i, want := range []int64{3, 2, 1} {
		if a := alone(t, e, op.Op{Kind: op.Delete, Draw: [2]int{2 - i, 2 - i}}); !a.Ok || a.Item.Val != want {
			t.Errorf("Delete %d: %+v", i, a)
		}
	}
	e = made(t, queue(5, vals(1, 2, 3)), 2)
	alone(t, e, op.Op{Kind: op.Enq, Item: pile.Item{Val: 4}})
	alone(t, e, op.Op{Kind: op.Enq, Item: pile.Item{Val: 5}})
	if n := e.Memory().Read(kfifo.Tail).N; n != 2 {
		t.Errorf("the Tail is %d", n)
	}
	for i, want := range []int64{2, 1, 4, 3, 5} {
		if a := alone(t, e, op.Op{Kind: op.Deq, Draw: [2]int{1}}); !a.Ok || a.Item.Val != want {
			t.Errorf("Deq %d: %+v", i, a)
		}
	}
	if a := alone(t, e, op.Op{Kind: op.Deq}); a.Ok {
		t.Errorf("Deq of nothing: %+v", a)
	}
}

// P18.3: a structure that is full has room for nothing more; all that is there goes, as relaxed as it may.
func TestFull(t *testing.T) {
	for param := 1; param <= 16; param++ {
		e := made(t, full(62*param, 16), param)
		for shard := range param {
			if a := alone(t, e, op.Op{Kind: op.Insert, Draw: [2]int{shard}}); a.Ok {
				t.Errorf("Insert into shard %d of %d: %+v", shard, param, a)
			}
		}
		room := image.Room(param)
		e = made(t, queue(17-param, rows(room)), param)
		if a := alone(t, e, op.Op{Kind: op.Enq, Draw: [2]int{3}}); a.Ok {
			t.Errorf("Enq, %d slots: %+v", param, a)
		}
		e = made(t, queue(17-param, rows(room)), param)
		for gone := range room {
			a := alone(t, e, op.Op{Kind: op.Deq, Draw: [2]int{param - 1}})
			if segment := gone / param * param; !a.Ok || a.Item.Val < int64(segment) || a.Item.Val >= int64(segment+param) {
				t.Errorf("Deq %d, %d slots: %+v", gone, param, a)
			}
		}
	}
}

// relaxed: what a recorder's threads did may have been answered so by its parameter, and what there is is what lax says.
func relaxed(t *testing.T, first value.Value, r *history.Recorder, distinct bool) {
	t.Helper()
	l := r.Calls()
	v, place, err := lax.Check(first, r.Param(), l)
	if err != api.OK || place != -1 {
		t.Fatalf("a %d of %d that held %+v: call %d can't have been answered so, %d:\n%+v", r.Kind(), r.Param(), first, place, err, l)
	}
	w := r.Value()
	if !distinct && r.Kind() == api.Kfifo { // of the same ones another one may have gone
		v.Items, w.Items = pile.Sorted(v.Items), pile.Sorted(w.Items)
	}
	if !holds(v, w) {
		t.Fatalf("a %d of %d that held %+v holds %+v; lax says %+v:\n%+v", r.Kind(), r.Param(), first, w, v, l)
	}
}

// P18.3: all ways in which a few operations go past one another.
func TestBoundAllWays(t *testing.T) {
	deq, next := op.Op{Kind: op.Deq}, op.Op{Kind: op.Next}
	enq := op.Op{Kind: op.Enq, Item: pile.Item{Val: 9}}
	in, out := op.Op{Kind: op.Insert, Item: pile.Item{Val: 2}}, op.Op{Kind: op.Delete, Draw: [2]int{0, 1}}
	add, sum := op.Op{Kind: op.Add, Item: pile.Item{Val: 3}}, op.Op{Kind: op.Sum}
	for _, c := range []struct {
		im    image.Image
		param int
		then  []op.Op
	}{
		{multi(vals(1, 2, 3)), 2, []op.Op{out, out, in}},
		{multi(vals(1), vals(1)), 1, []op.Op{out, in}},
		{queue(3, vals(1, 2, 3)), 2, []op.Op{deq, deq}},
		{queue(3, vals(1, 2)), 1, []op.Op{deq, enq}},
		{queue(1, vals(1, 2)), 2, []op.Op{deq, enq}},
		{tally(7, 0, 1), 2, []op.Op{add, sum, sum}},
		{tally(7), 3, []op.Op{add, add, sum}},
		{network(1, 7), 2, []op.Op{next, next, next}},
		{network(2, 3), 4, []op.Op{next, next, next}},
	} {
		ways := 0
		for picks := []int{}; picks != nil; ways++ {
			picks = oneWay(t, history.Of(made(t, c.im, c.param)), c.then, picks)
		}
		if ways < 10 {
			t.Errorf("%+v under %d: %d ways", c.im, c.param, ways)
		}
	}
}

// oneWay goes by picks, and behind them by the first of the busy ones; it answers the picks of the next way, nil behind the last one.
func oneWay(t *testing.T, r *history.Recorder, l []op.Op, picks []int) []int {
	t.Helper()
	first := r.Value()
	for thread, o := range l {
		r.Begin(thread, o)
	}
	var among []int
	for step := 0; len(r.Busy()) > 0; step++ {
		if step == len(picks) {
			picks = append(picks, 0)
		}
		among = append(among, len(r.Busy()))
		if v, _ := r.Pick(picks[step]); v.Done {
			relaxed(t, first, r, false)
		}
	}
	for step := len(among) - 1; step >= 0; step-- {
		if picks[step]+1 < among[step] {
			next := slices.Clone(picks[:step+1])
			next[step]++
			return next
		}
	}
	return nil
}

// numbered: its items are each their own.
func numbered(im image.Image) image.Image {
	im, n := copied(im), int64(1000)
	for _, l := range im.Lists {
		for i := range l {
			l[i] = pile.Item{Pri: float64(n), Val: n}
			n++
		}
	}
	return im
}

// P18.3: any images under any parameters, any threads, any picks.
func TestBoundAny(t *testing.T) {
	seed, runs := uint64(186), 0
	for round := range 400 {
		im, distinct := anyImage(&seed), round%2 > 0
		if distinct {
			im = numbered(im)
		}
		l := params(im.Kind)
		param := l[below(&seed, len(l))]
		if _, err := told(im, param); err != api.OK {
			continue
		}
		r := history.Of(made(t, im, param))
		anyRun(t, &seed, im.Value(), r, distinct)
		runs++
	}
	if runs < 200 {
		t.Errorf("only %d runs", runs)
	}
}

// anyRun: at times more goes than comes, so that it ends with nothing, at times the other way round.
func anyRun(t *testing.T, seed *uint64, first value.Value, r *history.Recorder, distinct bool) {
	t.Helper()
	began, own := 2+below(seed, 5), int64(0)
	for step := range 300 {
		if below(seed, 12) < began {
			if distinct {
				own++
			}
			r.Begin(below(seed, 6), anyOp(seed, r.Kind(), own))
		} else {
			r.Pick(below(seed, 6))
		}
		if step%50 == 0 {
			relaxed(t, first, r, distinct)
		}
	}
	for len(r.Busy()) > 0 {
		r.Pick(below(seed, 6))
	}
	relaxed(t, first, r, distinct)
}

// P1: nothing panics, and nothing is answered beside an error, whatever an image is.
func TestNeverPanics(t *testing.T) {
	seed, found := uint64(187), map[api.Errno]int{}
	for range 20000 {
		im := anyImage(&seed)
		bend(&seed, &im)
		param := []int{im.Param, 1 + below(&seed, 16), noParams(api.Net)[below(&seed, 20)]}[below(&seed, 3)]
		got, err := spread.To(im, param)
		m, errLay := spread.Lay(im)
		e, errEngine := spread.Engine(im, param)
		if err != api.OK && !reflect.DeepEqual(got, image.Image{}) || (errLay == api.OK) != (m != nil) || (errEngine == api.OK) != (e != nil) || err != api.OK && errEngine != err {
			t.Fatalf("of %+v, %d: %+v, %d; %v, %d; %v, %d", im, param, got, err, m, errLay, e, errEngine)
		}
		if check := im.Check(); check != api.OK && (err != check || errLay != check || errEngine != check) {
			t.Fatalf("of %+v, %d: %d, %d, %d; Check says %d", im, param, err, errLay, errEngine, check)
		}
		found[err]++
	}
	for _, err := range []api.Errno{api.OK, api.ErrKind, api.ErrParam, api.ErrForm, api.ErrOrder, api.ErrArg} {
		if found[err] < 100 {
			t.Errorf("%d was answered %d times", err, found[err])
		}
	}
}

// bend: most times it may not be any more.
func bend(seed *uint64, im *image.Image) {
	switch below(seed, 8) {
	case 0:
		im.Kind = below(seed, 8) - 1
	case 1:
		im.Param = below(seed, 20) - 1
	case 2:
		im.Lists = append(im.Lists, nil)
	case 3:
		im.Counts = nil
	case 4:
		for _, l := range im.Lists {
			slices.Reverse(l)
		}
	case 5:
		for i := range im.Counts {
			im.Counts[i] = -int64(below(seed, 3))
		}
	}
}
