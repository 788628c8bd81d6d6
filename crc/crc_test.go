package crc_test

import (
	"hash/crc32"
	"strings"
	"testing"

	"carryover/api"
	"carryover/crc"
)

// The greatest sealed text of which FLIPS speaks.
const flipBytes = 11400

// next: numbers that look like chance, the same ones each time.
func next(seed *uint64) uint64 {
	*seed = *seed*6364136223846793005 + 1442695040888963407
	x := *seed ^ *seed>>29
	return x * 0x9e3779b97f4a7c15 >> 16
}

func someText(seed *uint64, size int) string {
	b := make([]byte, size)
	for k := range b {
		b[k] = byte(next(seed))
	}
	return string(b)
}

// flip turns bits over, by their places: byte by byte, in each from the lowest on.
func flip(s string, bits ...int) string {
	b := []byte(s)
	for _, bit := range bits {
		b[bit/8] ^= 1 << (bit % 8)
	}
	return string(b)
}

// divided: a text's sum as the chapter's polynomial division tells it, power by power.
func divided(s string) uint32 {
	bits := make([]bool, 0, 8*len(s)+64)
	for k := range len(s) {
		for p := range 8 {
			bits = append(bits, s[k]>>p&1 == 1)
		}
	}
	bits = append(bits, make([]bool, 32)...)
	for k := range 32 {
		bits[k] = !bits[k]
	}
	powers := []int{32, 26, 23, 22, 16, 12, 11, 10, 8, 7, 5, 4, 2, 1, 0}
	for k := 0; k+32 < len(bits); k++ {
		if bits[k] {
			for _, p := range powers {
				bits[k+32-p] = !bits[k+32-p]
			}
		}
	}
	var sum uint32
	for k, bit := range bits[len(bits)-32:] {
		if !bit {
			sum |= 1 << k
		}
	}
	return sum
}

// P2.1
func TestMakeIsTheTable(t *testing.T) {
	x := crc.Make()
	if *x != crc.Table(*crc32.IEEETable) {
		t.Error("Make: another table")
	}
	x[5] = 0
	if crc.Make()[5] == 0 {
		t.Error("Make hands out one table twice")
	}
}

// P2.1
func TestKnownSums(t *testing.T) {
	x := crc.Make()
	for s, want := range map[string]uint32{"": 0, "a": 0xe8b7be43, "abc": 0x352441c2, "123456789": 0xcbf43926, "\x00": 0xd202ef8d, "\xff\xff\xff\xff": 0xffffffff, "\x00\x00\x00\x00": 0x2144df1c} {
		if got := x.Sum(s); got != want {
			t.Errorf("Sum %q: %x, want %x", s, got, want)
		}
	}
}

// P2.1: texts of less than four bytes have fewer than 32 bits to turn over.
func TestTheSumIsThePolynomials(t *testing.T) {
	x := crc.Make()
	for a := range 256 {
		for _, s := range []string{string([]byte{byte(a)}), string([]byte{0, byte(a)}), string([]byte{byte(a), 0xff, byte(a)})} {
			if got, want := x.Sum(s), divided(s); got != want {
				t.Errorf("Sum %x: %x, want %x", s, got, want)
			}
		}
	}
	seed := uint64(3)
	for size := range 200 {
		s := someText(&seed, size)
		if got, want := x.Sum(s), divided(s); got != want || got != crc32.ChecksumIEEE([]byte(s)) {
			t.Errorf("Sum %x: %x, want %x", s, got, want)
		}
	}
}

// P2.2
func TestPartsMakeNoDifference(t *testing.T) {
	x := crc.Make()
	if x.Sum() != 0 || x.Sum("") != 0 || x.Sum("", "", "") != 0 || x.More(0, "") != 0 {
		t.Error("the sum of nothing isn't 0")
	}
	seed := uint64(4)
	for _, size := range []int{0, 1, 2, 3, 4, 5, 8, 33} {
		s := someText(&seed, size)
		want := divided(s)
		for i := range size + 1 {
			for j := i; j <= size; j++ {
				if got := x.Sum(s[:i], s[i:j], s[j:]); got != want {
					t.Fatalf("Sum %x in parts at %d, %d: %x, want %x", s, i, j, got, want)
				}
				if got := x.More(x.More(x.Sum(s[:i]), s[i:j]), s[j:]); got != want {
					t.Fatalf("More %x in parts at %d, %d: %x, want %x", s, i, j, got, want)
				}
			}
		}
		if got := x.Sum(strings.Split(s, "")...); got != want {
			t.Errorf("Sum %x in small parts: %x, want %x", s, got, want)
		}
		if got := x.More(want, ""); got != want {
			t.Errorf("More of nothing: %x, want %x", got, want)
		}
	}
}

// P2.2, P2: the list of parts stays as it is.
func TestPartsStay(t *testing.T) {
	parts := []string{"12", "345", "6789"}
	if crc.Make().Sum(parts...) != 0xcbf43926 || parts[0] != "12" || parts[1] != "345" || parts[2] != "6789" {
		t.Errorf("parts are now %q", parts)
	}
}

// P2.1
func TestSealAndOpen(t *testing.T) {
	x := crc.Make()
	if s := x.Seal("123456789"); s != "123456789\x26\x39\xf4\xcb" {
		t.Errorf("Seal: %x", s)
	}
	if s := x.Seal(""); s != "\x00\x00\x00\x00" {
		t.Errorf("Seal of nothing: %x", s)
	}
	seed := uint64(5)
	for _, size := range []int{0, 1, 2, 3, 4, 5, 100, 5000} {
		s := someText(&seed, size)
		sealed := x.Seal(s)
		if len(sealed) != size+4 || sealed[:size] != s {
			t.Errorf("Seal of %d bytes", size)
		}
		if got, e := x.Open(sealed); got != s || e != api.OK {
			t.Errorf("Open of %d bytes: %d", size, e)
		}
	}
}

// P2.1
func TestOpenErrors(t *testing.T) {
	x := crc.Make()
	for _, s := range []string{"", "\x00", "ab", "\x00\x00\x00"} {
		if got, e := x.Open(s); got != "" || e != api.ErrEnd {
			t.Errorf("Open %x: %q, %d", s, got, e)
		}
	}
	for _, s := range []string{"\x00\x00\x00\x01", "\xff\xff\xff\xff", "123456789\xcb\xf4\x39\x26", "123456789\x26\x39\xf4\xcb\x00", "123456789\x26\x39\xf4", "\x26\x39\xf4\xcb123456789"} {
		if got, e := x.Open(s); got != "" || e != api.ErrSum {
			t.Errorf("Open %x: %q, %d", s, got, e)
		}
	}
}

func wantShut(t *testing.T, x *crc.Table, s string) {
	t.Helper()
	if got, e := x.Open(s); got != "" || e != api.ErrSum {
		t.Fatalf("opened, or another error: %d", e)
	}
}

// burst changes bits from place at on as the pattern says, as far as there are some.
func burst(s string, at int, pattern uint32) string {
	b := []byte(s)
	for k := range 32 {
		if pattern>>k&1 == 1 && at+k < 8*len(b) {
			b[(at+k)/8] ^= 1 << ((at + k) % 8)
		}
	}
	return string(b)
}

// P2.3
func TestBursts(t *testing.T) {
	x := crc.Make()
	seed := uint64(6)
	for _, size := range []int{0, 1, 2, 3, 4, 9, 40} {
		s := x.Seal(someText(&seed, size))
		for at := range 8 * len(s) {
			patterns := []uint32{1, 3, 0x80000001, 0xffffffff, 0xedb88321, 0xdb710641}
			for range 40 {
				patterns = append(patterns, uint32(next(&seed))|1)
			}
			for _, p := range patterns {
				wantShut(t, x, burst(s, at, p))
			}
		}
	}
}

// P2.3: on a text with few places, each pattern of up to 16 bits.
func TestShortBurstsAll(t *testing.T) {
	x := crc.Make()
	s := x.Seal("ab")
	for at := range 8 * len(s) {
		for p := uint32(1); p < 1<<16; p += 2 {
			wantShut(t, x, burst(s, at, p))
		}
	}
}

// signs: by how many bytes are behind a text's last one in a sealed text, what one bit there changes of what the sum is held against. Sums are linear, but for what is the same in all texts of one length: so this is all that a change does, whatever the text is.
func signs(x *crc.Table, sealedBytes int) []uint32 {
	out := make([]uint32, 8*sealedBytes)
	for k := range 32 {
		out[len(out)-32+k] = 1 << k
	}
	for p := range 8 {
		changed, plain := x.Sum(string([]byte{1 << p})), x.Sum("\x00")
		for at := sealedBytes - 5; at >= 0; at-- {
			out[8*at+p] = changed ^ plain
			changed, plain = x.More(changed, "\x00"), x.More(plain, "\x00")
		}
	}
	return out
}

// P2.3: no choice among 32 signs in a row takes all of them away, so no burst does, whatever the text.
func TestBurstsByTheirSigns(t *testing.T) {
	all := signs(crc.Make(), 2000)
	for at := 0; at+32 <= len(all); at++ {
		var basis [32]uint32
		for _, s := range all[at : at+32] {
			for k := range 32 {
				if s>>k&1 == 1 && basis[k] != 0 {
					s ^= basis[k]
				} else if s>>k&1 == 1 {
					basis[k] = s
					s = 0
				}
			}
		}
		for k, s := range basis {
			if s == 0 {
				t.Fatalf("bits from %d on: none has %d", at, k)
			}
		}
	}
}

// P2.4: by signs. That three bits take each other away hangs on how far they are apart alone, so it is enough to ask of those of which one is the last.
func TestFlipsByTheirSigns(t *testing.T) {
	all := signs(crc.Make(), flipBytes)
	places := make(map[uint32]int, len(all))
	for at, s := range all {
		if other, ok := places[s]; s == 0 || ok {
			t.Fatalf("bits %d and %d change the same, or nothing", at, other)
		}
		places[s] = at
	}
	last := all[len(all)-1]
	for at, s := range all[:len(all)-1] {
		if other, ok := places[s^last]; ok {
			t.Fatalf("bits %d, %d and the last one change nothing", at, other)
		}
	}
}

// P2.4: every one, two and three bits of short texts.
func TestFlipsOfShortTextsAll(t *testing.T) {
	x := crc.Make()
	for _, text := range []string{"", "a", "abc"} {
		s := x.Seal(text)
		bits := 8 * len(s)
		for i := range bits {
			wantShut(t, x, flip(s, i))
			for j := i + 1; j < bits; j++ {
				wantShut(t, x, flip(s, i, j))
				for k := j + 1; k < bits; k++ {
					wantShut(t, x, flip(s, i, j, k))
				}
			}
		}
	}
}

// P2.4: of the greatest sealed text, at its ends, in its sum, and here and there.
func TestFlipsOfTheGreatestText(t *testing.T) {
	x := crc.Make()
	seed := uint64(8)
	s := x.Seal(someText(&seed, flipBytes-4))
	if len(s) != flipBytes {
		t.Fatalf("%d bytes", len(s))
	}
	bits := 8 * len(s)
	places := []int{0, 1, 7, 8, bits - 34, bits - 33, bits - 32, bits - 31, bits - 2, bits - 1}
	for range 30 {
		places = append(places, 9+int(next(&seed)%uint64(bits-50)))
	}
	for n, i := range places {
		wantShut(t, x, flip(s, i))
		for m, j := range places[:n] {
			if i == j {
				continue
			}
			wantShut(t, x, flip(s, i, j))
			if m > 0 && places[m-1] != i && places[m-1] != j {
				wantShut(t, x, flip(s, i, j, places[m-1]))
			}
		}
	}
}
