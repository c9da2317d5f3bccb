package words_test

import (
	"encoding/binary"
	"math"
	"strings"
	"testing"

	"ringdove/api"
	"ringdove/words"
)

var badWords = []int{math.MinInt, math.MinInt + 3, -4, -1, 4, 5, 8, 32, 1 << 32, math.MaxInt}

var values = []uint64{0, 1, 9, 255, 256, 0x0102030405060708, 1 << 63, math.MaxUint64}

// someLines returns lines with equal, different and extreme words.
func someLines() []api.Line {
	return []api.Line{
		{},
		{1, 2, 3, 4},
		{4, 3, 2, 1},
		{7, 7, 7, 7},
		{5, 0, 258, math.MaxUint64},
		{0x8001020304050607, 0x08090a0b0c0d0e0f, 0x1011121314151617, 0x18191a1b1c1d1eff},
		{math.MaxUint64, math.MaxUint64, math.MaxUint64, math.MaxUint64},
	}
}

func TestP30LoadEveryWord(t *testing.T) {
	for _, w := range someLines() {
		for k, want := range w {
			if got, e := words.Load(w, k); got != want || e != api.OK {
				t.Errorf("Load(%v, %d) = %d, %d, want %d", w, k, got, e, want)
			}
		}
	}
}

func TestP30StoreEveryWord(t *testing.T) {
	for _, w := range someLines() {
		for k := range w {
			for _, v := range values {
				got, e := words.Store(w, k, v)
				if want := with(w, k, v); got != want || e != api.OK {
					t.Errorf("Store(%v, %d, %d) = %v, %d, want %v", w, k, v, got, e, want)
				}
			}
		}
	}
}

func TestP30SwapEveryWord(t *testing.T) {
	for _, w := range someLines() {
		for k := range w {
			for _, v := range values {
				got, old, e := words.Swap(w, k, v)
				if want := with(w, k, v); got != want || old != w[k] || e != api.OK {
					t.Errorf("Swap(%v, %d, %d) = %v, %d, %d, want %v, %d", w, k, v, got, old, e, want, w[k])
				}
			}
		}
	}
}

// with returns the line word by word, so that no assignment to a line is its own measure.
func with(w api.Line, k int, v uint64) api.Line {
	pick := func(i int) uint64 {
		if i == k {
			return v
		}
		return w[i]
	}
	return api.Line{pick(0), pick(1), pick(2), pick(3)}
}

func TestP30ExampleOfSwap(t *testing.T) {
	got, old, e := words.Swap(api.Line{1, 2, 3, 4}, 0, 9)
	if got != (api.Line{9, 2, 3, 4}) || old != 1 || e != api.OK {
		t.Errorf("%v, %d, %d", got, old, e)
	}
}

func TestP30SwapBackRestoresTheLine(t *testing.T) {
	for _, w := range someLines() {
		for k := range w {
			there, old, _ := words.Swap(w, k, 77)
			back, v, e := words.Swap(there, k, old)
			if back != w || v != 77 || e != api.OK {
				t.Errorf("word %d of %v: %v, %d, %d", k, w, back, v, e)
			}
		}
	}
}

// The error comes with zeros, also where the line and the value are not zero (P3).
func TestP30WordOutOfRange(t *testing.T) {
	for _, w := range someLines() {
		for _, k := range badWords {
			if got, e := words.Load(w, k); got != 0 || e != api.ErrRange {
				t.Errorf("Load(%v, %d) = %d, %d, want ErrRange", w, k, got, e)
			}
			for _, v := range values {
				if got, e := words.Store(w, k, v); got != (api.Line{}) || e != api.ErrRange {
					t.Errorf("Store(%v, %d, %d) = %v, %d, want ErrRange", w, k, v, got, e)
				}
				if got, old, e := words.Swap(w, k, v); got != (api.Line{}) || old != 0 || e != api.ErrRange {
					t.Errorf("Swap(%v, %d, %d) = %v, %d, %d, want ErrRange", w, k, v, got, old, e)
				}
			}
		}
	}
}

// The caller's line stays as it is, and no result changes with a later one (P2).
func TestP30LinesAreValues(t *testing.T) {
	w := api.Line{1, 2, 3, 4}
	stored, _ := words.Store(w, 1, 20)
	swapped, _, _ := words.Swap(stored, 2, 30)
	words.Store(swapped, 3, 40)
	if w != (api.Line{1, 2, 3, 4}) || stored != (api.Line{1, 20, 3, 4}) || swapped != (api.Line{1, 20, 30, 4}) {
		t.Error(w, stored, swapped)
	}
}

func TestP31PackWrittenOut(t *testing.T) {
	for _, x := range []struct {
		line api.Line
		want string
	}{
		{api.Line{}, strings.Repeat("\x00", 32)},
		{api.Line{math.MaxUint64, math.MaxUint64, math.MaxUint64, math.MaxUint64}, strings.Repeat("\xff", 32)},
		{api.Line{1, 2, 3, 4}, "\x00\x00\x00\x00\x00\x00\x00\x01\x00\x00\x00\x00\x00\x00\x00\x02" +
			"\x00\x00\x00\x00\x00\x00\x00\x03\x00\x00\x00\x00\x00\x00\x00\x04"},
		{api.Line{0x6162636465666768, 0x696a6b6c6d6e6f70, 0x4142434445464748, 0x494a4b4c4d4e4f50},
			"abcdefghijklmnopABCDEFGHIJKLMNOP"},
		{api.Line{1 << 63, 1 << 56, 1 << 8, 0xc3}, "\x80\x00\x00\x00\x00\x00\x00\x00\x01\x00\x00\x00\x00\x00\x00\x00" +
			"\x00\x00\x00\x00\x00\x00\x01\x00\x00\x00\x00\x00\x00\x00\x00\xc3"},
	} {
		if got := words.Pack(x.line); got != x.want {
			t.Errorf("Pack(%v) = %q, want %q", x.line, got, x.want)
		}
		if got, e := words.Unpack(x.want); got != x.line || e != api.OK {
			t.Errorf("Unpack(%q) = %v, %d, want %v", x.want, got, e, x.line)
		}
	}
}

// Each byte of a line has each of its values once, and the other bytes are zero.
func TestP31EveryByteAlone(t *testing.T) {
	for i := range 32 {
		for b := range 256 {
			bytes := make([]byte, 32)
			bytes[i] = byte(b)
			s, line := string(bytes), bigEndian(bytes)
			if got := words.Pack(line); got != s {
				t.Errorf("Pack(%v) = %q, want %q", line, got, s)
			}
			if got, e := words.Unpack(s); got != line || e != api.OK {
				t.Errorf("Unpack(%q) = %v, %d, want %v", s, got, e, line)
			}
		}
	}
}

func bigEndian(bytes []byte) api.Line {
	var line api.Line
	for k := range line {
		line[k] = binary.BigEndian.Uint64(bytes[8*k:])
	}
	return line
}

func TestP31UnpackIsTheInverseOfPack(t *testing.T) {
	for _, w := range someLines() {
		s := words.Pack(w)
		if len(s) != 32 {
			t.Errorf("Pack(%v) has %d bytes", w, len(s))
		}
		if got, e := words.Unpack(s); got != w || e != api.OK {
			t.Errorf("Unpack(Pack(%v)) = %v, %d", w, got, e)
		}
	}
	// 32 bytes that are no valid UTF-8 are still 32 bytes (P4).
	for _, s := range []string{strings.Repeat("\x80", 32), strings.Repeat("\xc3\xa9", 16), strings.Repeat("\xff\x00", 16)} {
		w, e := words.Unpack(s)
		if got := words.Pack(w); got != s || e != api.OK {
			t.Errorf("Pack(Unpack(%q)) = %q, %d", s, got, e)
		}
	}
}

func TestP31UnpackWrongLength(t *testing.T) {
	for n := range 100 {
		if n == 32 {
			continue
		}
		for _, b := range []string{"\x00", "\x01", "a", "\xff"} {
			if got, e := words.Unpack(strings.Repeat(b, n)); got != (api.Line{}) || e != api.ErrForm {
				t.Errorf("Unpack of %d bytes %q = %v, %d, want ErrForm", n, b, got, e)
			}
		}
	}
	// The bytes count, not the characters: 32 of these have 64 bytes (P4).
	if got, e := words.Unpack(strings.Repeat("é", 32)); got != (api.Line{}) || e != api.ErrForm {
		t.Errorf("Unpack of 32 characters of two bytes = %v, %d, want ErrForm", got, e)
	}
	if _, e := words.Unpack(strings.Repeat("a", 1<<20)); e != api.ErrForm {
		t.Errorf("Unpack of a long string = %d, want ErrForm", e)
	}
}
