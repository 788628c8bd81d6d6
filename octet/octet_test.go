package octet_test

import (
	"encoding/binary"
	"math"
	"strings"
	"testing"

	"carryover/api"
	"carryover/octet"
)

var numEdges = []uint64{0, 1, 2, 126, 127, 128, 129, 255, 256, 300, 1<<14 - 1, 1 << 14, 1<<21 - 1, 1 << 21, 1<<28 - 1, 1 << 28, 1<<32 - 1, 1 << 32, 1<<35 - 1, 1 << 35, 1<<42 - 1, 1 << 42, 1<<49 - 1, 1 << 49, 1<<56 - 1, 1 << 56, 1<<63 - 1, 1 << 63, math.MaxUint64 - 1, math.MaxUint64}

// next: numbers that look like chance, the same ones each time.
func next(seed *uint64) uint64 {
	*seed = *seed*6364136223846793005 + 1442695040888963407
	x := *seed ^ *seed>>29
	return x * 0x9e3779b97f4a7c15
}

// manyNums: the edges, and numbers of every length.
func manyNums() []uint64 {
	ns := append([]uint64{}, numEdges...)
	seed := uint64(1)
	for shift := range 64 {
		for range 50 {
			ns = append(ns, next(&seed)>>shift)
		}
	}
	return ns
}

// P1.1
func TestNumIsSpeltAsTold(t *testing.T) {
	for n, want := range map[uint64]string{
		0: "\x00", 1: "\x01", 127: "\x7f", 128: "\x80\x01", 300: "\xac\x02",
		1<<63 - 1:      "\xff\xff\xff\xff\xff\xff\xff\xff\x7f",
		1 << 63:        "\x80\x80\x80\x80\x80\x80\x80\x80\x80\x01",
		math.MaxUint64: "\xff\xff\xff\xff\xff\xff\xff\xff\xff\x01",
	} {
		if got := string(octet.Num(nil, n)); got != want {
			t.Errorf("Num %d: %x, want %x", n, got, want)
		}
	}
	for _, n := range manyNums() {
		if got, want := string(octet.Num(nil, n)), string(binary.AppendUvarint(nil, n)); got != want {
			t.Errorf("Num %d: %x, want %x", n, got, want)
		}
	}
}

// P1.1
func TestIntIsSpeltAsTold(t *testing.T) {
	for n, want := range map[int64]string{
		0: "\x00", -1: "\x01", 1: "\x02", -2: "\x03", 63: "\x7e", -64: "\x7f", 64: "\x80\x01", -65: "\x81\x01",
		math.MaxInt64: "\xfe\xff\xff\xff\xff\xff\xff\xff\xff\x01",
		math.MinInt64: "\xff\xff\xff\xff\xff\xff\xff\xff\xff\x01",
	} {
		if got := string(octet.Int(nil, n)); got != want {
			t.Errorf("Int %d: %x, want %x", n, got, want)
		}
	}
	for _, n := range manyNums() {
		if got, want := string(octet.Int(nil, int64(n))), string(binary.AppendVarint(nil, int64(n))); got != want {
			t.Errorf("Int %d: %x, want %x", int64(n), got, want)
		}
	}
}

// P1.1
func TestWordAndLongAreSpeltAsTold(t *testing.T) {
	if got := string(octet.Word(nil, 0x01020304)); got != "\x04\x03\x02\x01" {
		t.Errorf("Word: %x", got)
	}
	if got := string(octet.Long(nil, 0x0102030405060708)); got != "\x08\x07\x06\x05\x04\x03\x02\x01" {
		t.Errorf("Long: %x", got)
	}
	for _, n := range manyNums() {
		if got, want := string(octet.Word(nil, uint32(n))), string(binary.LittleEndian.AppendUint32(nil, uint32(n))); got != want {
			t.Errorf("Word %d: %x, want %x", uint32(n), got, want)
		}
		if got, want := string(octet.Long(nil, n)), string(binary.LittleEndian.AppendUint64(nil, n)); got != want {
			t.Errorf("Long %d: %x, want %x", n, got, want)
		}
	}
}

// P1.1
func TestStrIsSpeltAsTold(t *testing.T) {
	for s, want := range map[string]string{"": "\x00", "a": "\x01a", "\x00\xff": "\x02\x00\xff"} {
		if got := string(octet.Str(nil, s)); got != want {
			t.Errorf("Str %q: %x", s, got)
		}
	}
	long := strings.Repeat("x", 300)
	if got := string(octet.Str(nil, long)); got != "\xac\x02"+long {
		t.Errorf("Str of 300 bytes begins %x", got[:4])
	}
}

// P1.1, P2: what is put stands behind b's bytes, and these stay.
func TestBytesArePutBehind(t *testing.T) {
	puts := map[string]func(b []byte) []byte{
		"\xac\x02":                         func(b []byte) []byte { return octet.Num(b, 300) },
		"\x01":                             func(b []byte) []byte { return octet.Int(b, -1) },
		"\x02hi":                           func(b []byte) []byte { return octet.Str(b, "hi") },
		"\x01\x00\x00\x80":                 func(b []byte) []byte { return octet.Word(b, 0x80000001) },
		"\x02\x00\x00\x00\x00\x00\x00\x80": func(b []byte) []byte { return octet.Long(b, 0x8000000000000002) },
	}
	for want, put := range puts {
		for _, room := range []int{0, 1, 20} {
			b := append(make([]byte, 0, 3+room), "abc"...)
			if got := string(put(b)); got != "abc"+want {
				t.Errorf("behind abc: %x, want %x", got, "abc"+want)
			}
			if string(b) != "abc" {
				t.Errorf("b is now %q", b)
			}
		}
		if got, empty := string(put(nil)), string(put([]byte{})); got != want || empty != want {
			t.Errorf("behind nothing: %x, %x, want %x", got, empty, want)
		}
	}
}

// P1.2
func TestThereAndBack(t *testing.T) {
	for _, n := range manyNums() {
		b := octet.Num(nil, n)
		b = octet.Int(b, int64(n))
		b = octet.Int(b, -int64(n))
		b = octet.Word(b, uint32(n))
		b = octet.Long(b, n)
		i := octet.Of(string(b))
		if got := i.Num(n); got != n {
			t.Fatalf("Num %d: %d", n, got)
		}
		if got := i.Int(); got != int64(n) {
			t.Fatalf("Int %d: %d", int64(n), got)
		}
		if got := i.Int(); got != -int64(n) {
			t.Fatalf("Int %d: %d", -int64(n), got)
		}
		if got := i.Word(); got != uint32(n) {
			t.Fatalf("Word %d: %d", uint32(n), got)
		}
		if got := i.Long(); got != n {
			t.Fatalf("Long %d: %d", n, got)
		}
		if e := i.End(); e != api.OK {
			t.Fatalf("End behind %d: %d", n, e)
		}
	}
	for _, s := range []string{"", "a", "\x00", "\xff\xfe", strings.Repeat("ab", 64), strings.Repeat("c", 70000)} {
		i := octet.Of(string(octet.Str(octet.Str(nil, s), s)))
		if i.Str(len(s)) != s || i.Str(math.MaxInt) != s || i.End() != api.OK {
			t.Errorf("Str of %d bytes: %d", len(s), i.Err())
		}
	}
}

// P1.2: bytes that are read as a number are those that it is spelt by.
func oneSpelling(t *testing.T, s string) {
	i := octet.Of(s)
	n := i.Num(math.MaxUint64)
	if i.End() == api.OK && string(octet.Num(nil, n)) != s {
		t.Errorf("%x is read as %d, which is spelt %x", s, n, octet.Num(nil, n))
	}
	j := octet.Of(s)
	m := j.Int()
	if j.End() != i.Err() {
		t.Errorf("%x: Num says %d, Int %d", s, i.Err(), j.Err())
	}
	if j.Err() == api.OK && string(octet.Int(nil, m)) != s {
		t.Errorf("%x is read as %d, which is spelt %x", s, m, octet.Int(nil, m))
	}
}

// P1.2
func TestANumberHasOneSpelling(t *testing.T) {
	for a := range 256 {
		oneSpelling(t, string([]byte{byte(a)}))
		for b := range 256 {
			oneSpelling(t, string([]byte{byte(a), byte(b)}))
			for _, c := range []byte{0, 1, 0x7f, 0x80, 0x81, 0xff} {
				oneSpelling(t, string([]byte{byte(a), byte(b), c}))
			}
		}
	}
	for _, fill := range []string{"\x80", "\x81", "\xff"} {
		for size := range 12 {
			for last := range 256 {
				oneSpelling(t, strings.Repeat(fill, size)+string([]byte{byte(last)}))
			}
		}
	}
}

type numCase struct {
	s    string
	most uint64
	n    uint64
	err  api.Errno
}

// P1.1: each error of Num, and which comes first.
func TestNumErrors(t *testing.T) {
	nine80, nineFF := strings.Repeat("\x80", 9), strings.Repeat("\xff", 9)
	for _, c := range []numCase{
		{"", 0, 0, api.ErrEnd},
		{"\x80", 0, 0, api.ErrEnd},
		{"\xff", 0, 0, api.ErrEnd},
		{nineFF, math.MaxUint64, 0, api.ErrEnd},
		{nine80, 0, 0, api.ErrEnd},
		{"\x80\x00", math.MaxUint64, 0, api.ErrForm},
		{"\x80\x80\x00", math.MaxUint64, 0, api.ErrForm},
		{"\xff\x00", 0, 0, api.ErrForm},
		{"\xff\x80\x00", 0, 0, api.ErrForm},
		{nine80 + "\x00", math.MaxUint64, 0, api.ErrForm},
		{nineFF + "\x00", 0, 0, api.ErrForm},
		{nineFF + "\x02", math.MaxUint64, 0, api.ErrForm},
		{nineFF + "\x7f", 0, 0, api.ErrForm},
		{nine80 + "\x80", math.MaxUint64, 0, api.ErrForm},
		{nine80 + "\x81", math.MaxUint64, 0, api.ErrForm},
		{nine80 + "\x81\x00", math.MaxUint64, 0, api.ErrForm},
		{nineFF + "\xff\x01", math.MaxUint64, 0, api.ErrForm},
		{nineFF + "\x01", math.MaxUint64, math.MaxUint64, api.OK},
		{nineFF + "\x01", math.MaxUint64 - 1, 0, api.ErrBig},
		{nine80 + "\x01", 1 << 63, 1 << 63, api.OK},
		{nine80 + "\x01", 1<<63 - 1, 0, api.ErrBig},
		{"\x00", 0, 0, api.OK},
		{"\x01", 0, 0, api.ErrBig},
		{"\x64", 100, 100, api.OK},
		{"\x65", 100, 0, api.ErrBig},
		{"\xac\x02", 300, 300, api.OK},
		{"\xac\x02", 299, 0, api.ErrBig},
	} {
		i := octet.Of(c.s)
		if n := i.Num(c.most); n != c.n || i.Err() != c.err || i.Left() != 0 {
			t.Errorf("Num %x, at most %d: %d, %d", c.s, c.most, n, i.Err())
		}
	}
}

// P1.1: Int has no bound, and Num's other errors.
func TestIntErrors(t *testing.T) {
	for s, want := range map[string]api.Errno{"": api.ErrEnd, "\x81": api.ErrEnd, "\x81\x00": api.ErrForm, strings.Repeat("\xff", 9) + "\x02": api.ErrForm} {
		i := octet.Of(s)
		if n := i.Int(); n != 0 || i.Err() != want || i.Left() != 0 {
			t.Errorf("Int %x: %d, %d", s, n, i.Err())
		}
	}
}

// P1.1
func TestStrErrors(t *testing.T) {
	for _, c := range []struct {
		s    string
		most int
		want string
		err  api.Errno
	}{
		{"", 9, "", api.ErrEnd},
		{"\x80", 9, "", api.ErrEnd},
		{"\x80\x00", 9, "", api.ErrForm},
		{"\x83\x00abc", 9, "", api.ErrForm},
		{"\x04abcd", 3, "", api.ErrBig},
		{"\x04abc", 3, "", api.ErrBig},
		{"\x03ab", 3, "", api.ErrEnd},
		{"\x03", 3, "", api.ErrEnd},
		{"\x03abc", 3, "abc", api.OK},
		{"\x00", 0, "", api.OK},
		{"\x00", -1, "", api.OK},
		{"\x00", math.MinInt, "", api.OK},
		{"\x01a", 0, "", api.ErrBig},
		{"\x01a", -1, "", api.ErrBig},
		{"\x01a", math.MinInt, "", api.ErrBig},
		{"\xff\xff\xff\xff\xff\xff\xff\xff\x7fa", math.MaxInt, "", api.ErrEnd},
		{"\x80\x80\x80\x80\x80\x80\x80\x80\x80\x01a", math.MaxInt, "", api.ErrBig},
		{"\xff\xff\xff\xff\xff\xff\xff\xff\xff\x01a", math.MaxInt, "", api.ErrBig},
	} {
		i := octet.Of(c.s)
		if got := i.Str(c.most); got != c.want || i.Err() != c.err || i.Left() != 0 {
			t.Errorf("Str %x, at most %d: %q, %d, %d left", c.s, c.most, got, i.Err(), i.Left())
		}
	}
}

// P1.1
func TestBytesAreTakenFromTheFront(t *testing.T) {
	i := octet.Of("abcdefg")
	if i.Left() != 7 || i.Bytes(0) != "" || i.Bytes(-1) != "" || i.Bytes(math.MinInt) != "" || i.Left() != 7 {
		t.Error("Bytes below 1 take something")
	}
	if i.Byte() != 'a' || i.Left() != 6 || i.Bytes(2) != "bc" || i.Left() != 4 {
		t.Error("Byte, Bytes")
	}
	if i.Bytes(4) != "defg" || i.Left() != 0 || i.Err() != api.OK || i.End() != api.OK {
		t.Error("Bytes of all that is left")
	}
	if i.Bytes(0) != "" || i.Rest() != "" || i.Err() != api.OK {
		t.Error("nothing of nothing is an error")
	}
	if i.Byte() != 0 || i.Err() != api.ErrEnd {
		t.Error("Byte of nothing")
	}
	if j := octet.Of("a\xff"); j.Byte() != 'a' || j.Byte() != 0xff || j.End() != api.OK {
		t.Error("Byte")
	}
}

// P1.1: one byte too many is asked for.
func TestBytesEndTooEarly(t *testing.T) {
	for _, s := range []string{"", "a", "abc", "abcdefg"} {
		for _, n := range []int{len(s) + 1, len(s) + 2, math.MaxInt} {
			if i := octet.Of(s); i.Bytes(n) != "" || i.Err() != api.ErrEnd || i.Left() != 0 {
				t.Errorf("Bytes(%d) of %q: %d", n, s, i.Err())
			}
		}
		if i := octet.Of(s); len(s) < 4 && (i.Word() != 0 || i.Err() != api.ErrEnd || i.Left() != 0) {
			t.Errorf("Word of %q: %d", s, i.Err())
		}
		if i := octet.Of(s); i.Long() != 0 || i.Err() != api.ErrEnd || i.Left() != 0 {
			t.Errorf("Long of %q: %d", s, i.Err())
		}
	}
}

// P1.1
func TestRest(t *testing.T) {
	i := octet.Of("\x02abcd")
	if i.Str(2) != "ab" || i.Left() != 2 || i.Rest() != "cd" || i.Left() != 0 || i.Rest() != "" || i.End() != api.OK {
		t.Errorf("Rest: %d", i.Err())
	}
	if octet.Of("").Rest() != "" {
		t.Error("Rest of nothing")
	}
}

// P1.1, P1.3
func TestEndWithBytesLeft(t *testing.T) {
	if i := octet.Of(""); i.End() != api.OK || i.Err() != api.OK {
		t.Error("End of nothing")
	}
	i := octet.Of("abc")
	if i.Byte() != 'a' || i.Err() != api.OK || i.Left() != 2 {
		t.Error("an error ahead of End")
	}
	if i.End() != api.ErrForm || i.Err() != api.ErrForm || i.End() != api.ErrForm || i.Left() != 0 || i.Rest() != "" {
		t.Errorf("End with bytes left: %d", i.Err())
	}
}

// P1.1: what is taken is what was put, whatever stands behind it.
func TestNothingBehindIsTaken(t *testing.T) {
	for _, n := range numEdges {
		i := octet.Of(string(octet.Num(nil, n)) + "\x80rest")
		if i.Num(n) != n || i.Rest() != "\x80rest" {
			t.Errorf("Num %d takes too much or too little", n)
		}
	}
	i := octet.Of(string(octet.Long(octet.Word(nil, 7), 8)) + "x")
	if i.Word() != 7 || i.Left() != 9 || i.Long() != 8 || i.Rest() != "x" {
		t.Error("Word, Long")
	}
}

// takeAll makes every call but Err, and says whether each answered nothing.
func takeAll(i *octet.In, want api.Errno) bool {
	return i.Bytes(1) == "" && i.Bytes(0) == "" && i.Bytes(-1) == "" && i.Byte() == 0 &&
		i.Num(0) == 0 && i.Num(math.MaxUint64) == 0 && i.Int() == 0 &&
		i.Str(0) == "" && i.Str(-1) == "" && i.Str(math.MaxInt) == "" &&
		i.Word() == 0 && i.Long() == 0 && i.Rest() == "" && i.Left() == 0 && i.End() == want
}

// P1.3
func TestAnErrorStays(t *testing.T) {
	tail := "\x01\x01abcdefghijklmnop"
	for _, c := range []struct {
		name string
		s    string
		take func(i *octet.In)
		err  api.Errno
	}{
		{"Bytes", tail, func(i *octet.In) { i.Bytes(100) }, api.ErrEnd},
		{"Byte", "", func(i *octet.In) { i.Byte() }, api.ErrEnd},
		{"Num unended", "\x80", func(i *octet.In) { i.Num(9) }, api.ErrEnd},
		{"Num too long", "\x80\x00" + tail, func(i *octet.In) { i.Num(9) }, api.ErrForm},
		{"Num too big", "\x0a" + tail, func(i *octet.In) { i.Num(9) }, api.ErrBig},
		{"Int", "\x80\x00" + tail, func(i *octet.In) { i.Int() }, api.ErrForm},
		{"Str too short", "\x64" + tail, func(i *octet.In) { i.Str(100) }, api.ErrEnd},
		{"Str too big", "\x05" + tail, func(i *octet.In) { i.Str(4) }, api.ErrBig},
		{"Str below 0", "\x01" + tail, func(i *octet.In) { i.Str(-5) }, api.ErrBig},
		{"Word", "abc", func(i *octet.In) { i.Word() }, api.ErrEnd},
		{"Long", "abcdefg", func(i *octet.In) { i.Long() }, api.ErrEnd},
		{"End", tail, func(i *octet.In) { i.End() }, api.ErrForm},
	} {
		i := octet.Of(c.s)
		c.take(i)
		if i.Err() != c.err || i.Left() != 0 {
			t.Errorf("%s: %d, %d left", c.name, i.Err(), i.Left())
		}
		for range 2 {
			if !takeAll(i, c.err) || i.Err() != c.err {
				t.Errorf("%s: something is taken behind the error, or it is %d now", c.name, i.Err())
			}
		}
	}
}

// makeCall makes one call of those that take, by number, and says what it answered, as a number and a text.
func makeCall(i *octet.In, which, bound uint64) (uint64, string) {
	switch which % 8 {
	case 0:
		return uint64(i.Byte()), ""
	case 1:
		return i.Num(bound), ""
	case 2:
		return uint64(i.Int()), ""
	case 3:
		return 0, i.Str(int(bound))
	case 4:
		return uint64(i.Word()), ""
	case 5:
		return i.Long(), ""
	case 6:
		return 0, i.Bytes(int(bound))
	default:
		return 0, i.Rest()
	}
}

// P1, P2, P1.3: whatever bytes there are and whatever is asked, nothing panics, what is left never grows, and the same calls answer the same.
func TestAnyBytesAnyCalls(t *testing.T) {
	seed := uint64(7)
	for range 20000 {
		b := make([]byte, next(&seed)%24)
		for k := range b {
			b[k] = byte(next(&seed)) | byte(next(&seed)%2)<<7
		}
		i, j := octet.Of(string(b)), octet.Of(string(b))
		for range 6 {
			which, bound := next(&seed), next(&seed)>>(next(&seed)%64)
			left, err := i.Left(), i.Err()
			n, s := makeCall(i, which, bound)
			m, r := makeCall(j, which, bound)
			if n != m || s != r || i.Err() != j.Err() {
				t.Fatalf("%x: the same call answered otherwise", b)
			}
			if i.Left() > left || err != api.OK && i.Err() != err {
				t.Fatalf("%x: %d left behind %d, error %d behind %d", b, i.Left(), left, i.Err(), err)
			}
			if i.Err() != api.OK && (n != 0 || s != "" || i.Left() != 0) {
				t.Fatalf("%x: %d, %q beside error %d", b, n, s, i.Err())
			}
		}
	}
}
