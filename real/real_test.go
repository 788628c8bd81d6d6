package real_test

import (
	"fmt"
	"math"
	"strings"
	"testing"

	"carryover/api"
	"carryover/real"
)

const (
	signBit   = uint64(1) << 63
	plusInf   = uint64(0x7ff0000000000000)
	minusInf  = uint64(0xfff0000000000000)
	canonNone = uint64(0x7ff8000000000000)
)

// next: numbers that look like chance, the same ones each time.
func next(seed *uint64) uint64 {
	*seed = *seed*6364136223846793005 + 1442695040888963407
	x := *seed ^ *seed>>29
	return x * 0x9e3779b97f4a7c15
}

// rising: canonical floats' bits, each behind the one ahead of it.
var rising = []uint64{
	minusInf,
	0xffefffffffffffff, // the least number
	0xffeffffffffffffe,
	0xc024000000000000, // -10
	0xbff0000000000001,
	0xbff0000000000000, // -1
	0xbfefffffffffffff,
	0x8010000000000001,
	0x8010000000000000, // the least exponent with a leading 1
	0x800fffffffffffff,
	0x8000000000000002,
	0x8000000000000001,
	signBit, // -0
	0,
	0x0000000000000001,
	0x0000000000000002,
	0x000fffffffffffff,
	0x0010000000000000,
	0x0010000000000001,
	0x3fefffffffffffff,
	0x3ff0000000000000, // 1
	0x3ff0000000000001,
	0x4024000000000000, // 10
	0x7feffffffffffffe,
	0x7fefffffffffffff, // the greatest number
	plusInf,
	canonNone,
}

// noneEdges: bits of what is no number and isn't canonical.
var noneEdges = []uint64{
	0x7ff0000000000001, 0x7ff0000000000002, 0x7ff7ffffffffffff, 0x7ff8000000000001, 0x7fffffffffffffff,
	0xfff0000000000001, 0xfff7ffffffffffff, 0xfff8000000000000, 0xfff8000000000123, 0xffffffffffffffff,
}

// isNone tells by the bits alone: all of the exponent, and something of the fraction.
func isNone(bits uint64) bool {
	return bits>>52&0x7ff == 0x7ff && bits&(1<<52-1) != 0
}

func canonOf(bits uint64) uint64 {
	if isNone(bits) {
		return canonNone
	}
	return bits
}

// manyBits: the edges, each exponent of each sign with fractions at their edges, each single bit, and bits at random.
func manyBits() []uint64 {
	all := append(append([]uint64{}, rising...), noneEdges...)
	for top := range uint64(1 << 12) {
		for _, low := range []uint64{0, 1, 1<<51 - 1, 1 << 51, 1<<51 + 1, 1<<52 - 1} {
			all = append(all, top<<52|low)
		}
	}
	for k := range 64 {
		all = append(all, 1<<k, ^(uint64(1) << k), canonNone^1<<k, plusInf^1<<k)
	}
	seed := uint64(1)
	for range 20000 {
		all = append(all, next(&seed))
		all = append(all, next(&seed)|plusInf)
	}
	return all
}

// P3.1
func TestCanon(t *testing.T) {
	for _, bits := range manyBits() {
		f := math.Float64frombits(bits)
		if got := math.Float64bits(real.Canon(f)); got != canonOf(bits) {
			t.Fatalf("Canon %016x: %016x", bits, got)
		}
		if got := math.Float64bits(real.Canon(real.Canon(f))); got != canonOf(bits) {
			t.Fatalf("Canon twice %016x: %016x", bits, got)
		}
	}
}

// P3.1
func TestKnownKeys(t *testing.T) {
	for bits, want := range map[uint64]uint64{
		0:                  0x8000000000000000,
		signBit:            0x7fffffffffffffff,
		0x3ff0000000000000: 0xbff0000000000000,
		0xbff0000000000000: 0x400fffffffffffff,
		1:                  0x8000000000000001,
		signBit | 1:        0x7ffffffffffffffe,
		plusInf:            0xfff0000000000000,
		minusInf:           0x000fffffffffffff,
		canonNone:          0xfff8000000000000,
		0xfff8000000000000: 0xfff8000000000000,
		0xffffffffffffffff: 0xfff8000000000000,
		0x7ff0000000000001: 0xfff8000000000000,
	} {
		if got := real.Key(math.Float64frombits(bits)); got != want {
			t.Errorf("Key %016x: %016x, want %016x", bits, got, want)
		}
	}
}

// P3.1
func TestKeyAsTold(t *testing.T) {
	for _, bits := range manyBits() {
		want := canonOf(bits)
		if want < signBit {
			want += signBit
		} else {
			want = math.MaxUint64 - want
		}
		if got := real.Key(math.Float64frombits(bits)); got != want {
			t.Fatalf("Key %016x: %016x, want %016x", bits, got, want)
		}
	}
}

// P3.1, P3.3
func TestBackFromKeys(t *testing.T) {
	for _, bits := range manyBits() {
		g, ok := real.Back(real.Key(math.Float64frombits(bits)))
		if !ok || math.Float64bits(g) != canonOf(bits) {
			t.Fatalf("Back of the key of %016x: %016x, %v", bits, math.Float64bits(g), ok)
		}
	}
}

// hasKey: keys from -inf's to inf's are some number's, and one behind these is NaN's.
func hasKey(key uint64) bool {
	return key >= 0x000fffffffffffff && key <= 0xfff0000000000000 || key == 0xfff8000000000000
}

// P3.1, P3.3: any key at all; what has it has it alone.
func TestBackOfAnyKey(t *testing.T) {
	keys := append(manyBits(), 0, 1, 0x000ffffffffffffd, 0x000ffffffffffffe, 0x000fffffffffffff, 0x0010000000000000,
		0x0007ffffffffffff, 0x0008000000000000, 0xffefffffffffffff, 0xfff0000000000000, 0xfff0000000000001, 0xfff7ffffffffffff,
		0xfff8000000000000, 0xfff8000000000001, 0xfffffffffffffffe, 0xffffffffffffffff)
	seed := uint64(2)
	for range 2000 {
		keys = append(keys, next(&seed)>>12, ^(next(&seed) >> 12))
	}
	for _, key := range keys {
		f, ok := real.Back(key)
		if ok != hasKey(key) {
			t.Fatalf("Back %016x: %v", key, ok)
		}
		if !ok && math.Float64bits(f) != 0 {
			t.Fatalf("Back %016x: %016x beside false", key, math.Float64bits(f))
		}
		if ok && (real.Key(f) != key || math.Float64bits(f) != canonOf(math.Float64bits(f))) {
			t.Fatalf("Back %016x: %016x, which has another key or isn't canonical", key, math.Float64bits(f))
		}
	}
}

func sign(n int) int {
	return min(max(n, -1), 1)
}

// P3.1, P3.2
func TestCmpOfEdges(t *testing.T) {
	for i, a := range rising {
		for j, b := range rising {
			if got := real.Cmp(math.Float64frombits(a), math.Float64frombits(b)); got != sign(i-j) {
				t.Errorf("Cmp %016x, %016x: %d", a, b, got)
			}
		}
		for _, none := range noneEdges {
			want := -1
			if a == canonNone {
				want = 0
			}
			f, g := math.Float64frombits(a), math.Float64frombits(none)
			if real.Cmp(f, g) != want || real.Cmp(g, f) != -want {
				t.Errorf("Cmp %016x, %016x: %d, %d", a, none, real.Cmp(f, g), real.Cmp(g, f))
			}
		}
	}
	for _, a := range noneEdges {
		for _, b := range noneEdges {
			if got := real.Cmp(math.Float64frombits(a), math.Float64frombits(b)); got != 0 {
				t.Errorf("Cmp %016x, %016x: %d", a, b, got)
			}
		}
	}
}

// wantOrder: what less and greater say, and of what they don't: -0, 0 and NaN's place.
func wantOrder(f, g float64) int {
	switch {
	case math.IsNaN(f) && math.IsNaN(g):
		return 0
	case math.IsNaN(f):
		return 1
	case math.IsNaN(g):
		return -1
	case f == 0 && g == 0 && math.Signbit(f) != math.Signbit(g):
		if math.Signbit(f) {
			return -1
		}
		return 1
	case f < g:
		return -1
	case f > g:
		return 1
	}
	return 0
}

// P3.2
func TestCmpIsLessAndGreater(t *testing.T) {
	all := manyBits()
	seed := uint64(3)
	for range 200000 {
		f := math.Float64frombits(all[next(&seed)>>11%uint64(len(all))])
		g := math.Float64frombits(all[next(&seed)>>11%uint64(len(all))])
		if got := real.Cmp(f, g); got != wantOrder(f, g) {
			t.Fatalf("Cmp %v, %v: %d", f, g, got)
		}
		if real.Cmp(f, g) != -real.Cmp(g, f) || real.Cmp(f, f) != 0 {
			t.Fatalf("Cmp %v, %v: not the same from both sides", f, g)
		}
	}
	for _, bits := range all {
		f := math.Float64frombits(bits)
		if g := math.Nextafter(f, math.Inf(1)); real.Cmp(f, g) != wantOrder(f, g) || real.Cmp(g, f) != wantOrder(g, f) {
			t.Fatalf("Cmp %v and the next: %d", f, real.Cmp(f, g))
		}
	}
}

// P3.2
func TestCmpThroughAThird(t *testing.T) {
	all := append(append([]uint64{}, rising...), noneEdges...)
	seed := uint64(4)
	for range 20 {
		all = append(all, next(&seed))
	}
	for _, a := range all {
		for _, b := range all {
			for _, c := range all {
				f, g, h := math.Float64frombits(a), math.Float64frombits(b), math.Float64frombits(c)
				if real.Cmp(f, g) <= 0 && real.Cmp(g, h) <= 0 && real.Cmp(f, h) != min(real.Cmp(f, g), real.Cmp(g, h)) {
					t.Fatalf("Cmp %016x, %016x, %016x", a, b, c)
				}
			}
		}
	}
}

// P3.1
func TestClass(t *testing.T) {
	if real.Zero != 0 || real.Finite != 1 || real.Infinite != 2 || real.None != 3 {
		t.Error("the classes have other numbers")
	}
	for _, bits := range manyBits() {
		want := real.Finite
		switch {
		case isNone(bits):
			want = real.None
		case bits == plusInf || bits == minusInf:
			want = real.Infinite
		case bits == 0 || bits == signBit:
			want = real.Zero
		}
		if got := real.Class(math.Float64frombits(bits)); got != want {
			t.Fatalf("Class %016x: %d, want %d", bits, got, want)
		}
	}
}

func textOf(bits uint64) string {
	switch {
	case isNone(bits):
		return "nan"
	case bits == 0:
		return "0"
	case bits == signBit:
		return "-0"
	case bits == plusInf:
		return "inf"
	case bits == minusInf:
		return "-inf"
	}
	return fmt.Sprintf("%016x", bits)
}

// P3.1
func TestKnownTexts(t *testing.T) {
	for want, f := range map[string]float64{
		"0": 0, "-0": math.Copysign(0, -1), "inf": math.Inf(1), "-inf": math.Inf(-1), "nan": math.NaN(),
		"3ff0000000000000": 1, "bff0000000000000": -1, "0000000000000001": math.SmallestNonzeroFloat64,
		"8000000000000001": -math.SmallestNonzeroFloat64, "7fefffffffffffff": math.MaxFloat64,
		"ffefffffffffffff": -math.MaxFloat64, "3fb999999999999a": 0.1,
	} {
		if got := real.Text(f); got != want {
			t.Errorf("Text %v: %s, want %s", f, got, want)
		}
		if g, e := real.Parse(want); e != api.OK || math.Float64bits(g) != canonOf(math.Float64bits(f)) {
			t.Errorf("Parse %s: %v, %d", want, g, e)
		}
	}
}

// P3.1, P3.3
func TestTextAndParse(t *testing.T) {
	for _, bits := range manyBits() {
		s := real.Text(math.Float64frombits(bits))
		if s != textOf(bits) {
			t.Fatalf("Text %016x: %s", bits, s)
		}
		if g, e := real.Parse(s); e != api.OK || math.Float64bits(g) != canonOf(bits) {
			t.Fatalf("Parse %s: %016x, %d", s, math.Float64bits(g), e)
		}
	}
}

// P3.1, P3.3: digits of any bits are a text if these are canonical and have no word.
func TestParseDigits(t *testing.T) {
	for _, bits := range manyBits() {
		s := fmt.Sprintf("%016x", bits)
		f, e := real.Parse(s)
		if textOf(bits) == s && (e != api.OK || math.Float64bits(f) != bits) {
			t.Fatalf("Parse %s: %016x, %d", s, math.Float64bits(f), e)
		}
		if textOf(bits) != s && (e != api.ErrForm || math.Float64bits(f) != 0) {
			t.Fatalf("Parse %s: %016x, %d", s, math.Float64bits(f), e)
		}
	}
}

func wantForm(t *testing.T, s string) {
	t.Helper()
	if f, e := real.Parse(s); e != api.ErrForm || math.Float64bits(f) != 0 {
		t.Errorf("Parse %.40q: %016x, %d", s, math.Float64bits(f), e)
	}
}

// P3.1, P3.3
func TestParseErrors(t *testing.T) {
	for _, s := range []string{
		"", " ", "-", "+", "00", "+0", "--0", "-00", "0 ", " 0", "0\x00", "1", "-1", "1.0", "1e5", "x",
		"Inf", "INF", "+inf", "--inf", "inf ", " inf", "infinity", "-Inf", "in", "i", "NaN", "NAN", "-nan", "+nan", "nan ", "na",
		"3ff000000000000", "3ff00000000000000", "03ff0000000000000", "00000000000000003ff0000000000000", "3ff",
		"3FF0000000000000", "3fF0000000000000", "3FB999999999999A", "3fb999999999999A",
		"0000000000000000", "8000000000000000", "7ff0000000000000", "fff0000000000000", "7ff8000000000000",
		"7ff0000000000001", "7ff8000000000001", "fff8000000000000", "ffffffffffffffff", "7fffffffffffffff",
		"3ff000000000000g", "g000000000000000", "3ff0_00000000000", "3ff000000000000_", "_3ff000000000000", "0x3ff00000000000", "0x3ff0000000000000", "+3ff000000000000", "-3ff000000000000", "-3ff0000000000000",
		" 3ff000000000000", "3ff000000000000 ", "3ff0000000000000 ", "3ff0000000000000\n", "3ff0000000000000\x00",
		"3ff00000000000\u0660", "\uff13ff000000000000", "\xff\xff", strings.Repeat("0", 100), strings.Repeat("f", 100), strings.Repeat("0", 100000), "nan" + strings.Repeat("n", 13),
	} {
		wantForm(t, s)
	}
}

// P3.3: whatever text is read, it is the text of what it is read as.
func TestAnyTextHasOneReading(t *testing.T) {
	seed := uint64(5)
	letters := "0123456789abcdefABCDEF-+infaN_xX. \x00\x80"
	read := 0
	for range 200000 {
		base := []byte(real.Text(math.Float64frombits(next(&seed))))
		if next(&seed)>>60 == 0 {
			base = []byte([]string{"0", "-0", "inf", "-inf", "nan"}[next(&seed)>>11%5])
		}
		for range next(&seed) >> 62 {
			base[next(&seed)>>11%uint64(len(base))] = letters[next(&seed)>>11%uint64(len(letters))]
		}
		s := string(base)
		f, e := real.Parse(s)
		switch {
		case e == api.OK && real.Text(f) != s:
			t.Fatalf("Parse %q: its text is %q", s, real.Text(f))
		case e == api.OK:
			read++
		case e != api.ErrForm || math.Float64bits(f) != 0:
			t.Fatalf("Parse %q: %016x, %d", s, math.Float64bits(f), e)
		}
	}
	if read < 1000 {
		t.Errorf("only %d texts were read", read)
	}
}

// P3.3: no two canonical floats have one key or one text.
func TestNoneSharesKeyOrText(t *testing.T) {
	keys, texts := map[uint64]uint64{}, map[string]uint64{}
	for _, bits := range manyBits() {
		f := math.Float64frombits(bits)
		if other, ok := keys[real.Key(f)]; ok && other != canonOf(bits) {
			t.Fatalf("%016x and %016x have one key", bits, other)
		}
		if other, ok := texts[real.Text(f)]; ok && other != canonOf(bits) {
			t.Fatalf("%016x and %016x have one text", bits, other)
		}
		keys[real.Key(f)], texts[real.Text(f)] = canonOf(bits), canonOf(bits)
	}
}
