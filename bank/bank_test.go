package bank_test

import (
	"math"
	"slices"
	"testing"

	"ringdove/api"
	"ringdove/bank"
)

var badLines = []int{math.MinInt, math.MinInt + 3, -16, -2, -1, 16, 17, 63, 64, 1 << 32, math.MaxInt}

var badAddresses = []int{math.MinInt, math.MinInt + 3, -64, -4, -3, -1, 64, 65, 67, 256, 1 << 32, math.MaxInt}

var values = []uint64{0, 1, 7, 103, 1 << 31, 1 << 32, 1 << 63, math.MaxUint64}

var newLines = []api.Line{
	{},
	{1, 2, 3, 4},
	{3: 9},
	{7, 7, 7, 7},
	{math.MaxUint64, 0, 1 << 63, math.MaxUint64},
}

// filled returns a memory whose word at address a is f(a). The addresses are counted, so that they do not rest on the arithmetic under test.
func filled(f func(a int) uint64) api.Memory {
	var m api.Memory
	a := 0
	for i := range m {
		for k := range m[i] {
			m[i][k] = f(a)
			a++
		}
	}
	return m
}

// flat returns the words of a memory in the order of their addresses.
func flat(m api.Memory) []uint64 {
	var l []uint64
	for _, w := range m {
		l = append(l, w[:]...)
	}
	return l
}

// someMemories returns memories of zeros, of words that all differ, of equal words, of extreme words, and of few words that are not 0.
func someMemories() []api.Memory {
	return []api.Memory{
		{},
		filled(func(a int) uint64 { return uint64(a) + 100 }),
		filled(func(a int) uint64 { return 7 }),
		filled(func(a int) uint64 { return math.MaxUint64 - uint64(a)<<32 }),
		{0: {5}, 15: {3: 6}},
	}
}

func TestP70New(t *testing.T) {
	for a, v := range flat(bank.New()) {
		if v != 0 {
			t.Errorf("the word at address %d is %d", a, v)
		}
	}
}

// No memory has what was written into an earlier one.
func TestP70NewKeepsNothing(t *testing.T) {
	m := bank.New()
	for i := range m {
		m[i] = api.Line{1, 2, 3, 4}
	}
	bank.Write(m, 3, api.Line{5, 6, 7, 8})
	bank.Poke(m, 63, 9)
	if n := bank.New(); n != (api.Memory{}) {
		t.Errorf("%v, want zeros", n)
	}
}

func TestP70ReadEveryLine(t *testing.T) {
	for _, m := range someMemories() {
		for line := range 16 {
			want := flat(m)[4*line : 4*line+4]
			if got, e := bank.Read(m, line); !slices.Equal(got[:], want) || e != api.OK {
				t.Errorf("Read(%v, %d) = %v, %d, want %v", m, line, got, e, want)
			}
		}
	}
}

func TestP70WriteEveryLine(t *testing.T) {
	for _, m := range someMemories() {
		for line := range 16 {
			for _, w := range newLines {
				want := flat(m)
				copy(want[4*line:], w[:])
				got, e := bank.Write(m, line, w)
				if !slices.Equal(flat(got), want) || e != api.OK {
					t.Errorf("Write(%v, %d, %v) = %v, %d, want %v", m, line, w, got, e, want)
				}
			}
		}
	}
}

func TestP70WordAtEveryAddress(t *testing.T) {
	for _, m := range someMemories() {
		for a, want := range flat(m) {
			if got, e := bank.Word(m, a); got != want || e != api.OK {
				t.Errorf("Word(%v, %d) = %d, %d, want %d", m, a, got, e, want)
			}
		}
	}
}

func TestP70PokeEveryAddress(t *testing.T) {
	for _, m := range someMemories() {
		for a := range 64 {
			for _, v := range values {
				want := flat(m)
				want[a] = v
				got, e := bank.Poke(m, a, v)
				if !slices.Equal(flat(got), want) || e != api.OK {
					t.Errorf("Poke(%v, %d, %d) = %v, %d, want %v", m, a, v, got, e, want)
				}
			}
		}
	}
}

// The numbers are written out here, because the other tests count them.
func TestP70FirstAndLast(t *testing.T) {
	m := api.Memory{0: {1, 2, 3, 4}, 1: {5, 6, 7, 8}, 15: {61, 62, 63, 64}}
	for _, x := range []struct {
		a    int
		want uint64
	}{{0, 1}, {3, 4}, {4, 5}, {7, 8}, {8, 0}, {59, 0}, {60, 61}, {63, 64}} {
		if got, e := bank.Word(m, x.a); got != x.want || e != api.OK {
			t.Errorf("Word(%d) = %d, %d, want %d", x.a, got, e, x.want)
		}
	}
	first, e := bank.Poke(m, 0, 9)
	last, f := bank.Poke(m, 63, 9)
	if first[0] != (api.Line{9, 2, 3, 4}) || last[15] != (api.Line{61, 62, 63, 9}) || e != api.OK || f != api.OK {
		t.Errorf("%v, %d, %v, %d", first, e, last, f)
	}
	first, e = bank.Write(m, 0, api.Line{})
	last, f = bank.Write(m, 15, api.Line{})
	if first != (api.Memory{1: m[1], 15: m[15]}) || last != (api.Memory{0: m[0], 1: m[1]}) || e != api.OK || f != api.OK {
		t.Errorf("%v, %d, %v, %d", first, e, last, f)
	}
}

func TestP70NoLine(t *testing.T) {
	for _, m := range someMemories() {
		for _, line := range badLines {
			if w, e := bank.Read(m, line); w != (api.Line{}) || e != api.ErrRange {
				t.Errorf("Read(%v, %d) = %v, %d, want zeros, ErrRange", m, line, w, e)
			}
			for _, w := range newLines {
				if n, e := bank.Write(m, line, w); n != (api.Memory{}) || e != api.ErrRange {
					t.Errorf("Write(%v, %d, %v) = %v, %d, want zeros, ErrRange", m, line, w, n, e)
				}
			}
		}
	}
}

func TestP70NoAddress(t *testing.T) {
	for _, m := range someMemories() {
		for _, a := range badAddresses {
			if v, e := bank.Word(m, a); v != 0 || e != api.ErrRange {
				t.Errorf("Word(%v, %d) = %d, %d, want 0, ErrRange", m, a, v, e)
			}
			for _, v := range values {
				if n, e := bank.Poke(m, a, v); n != (api.Memory{}) || e != api.ErrRange {
					t.Errorf("Poke(%v, %d, %d) = %v, %d, want zeros, ErrRange", m, a, v, n, e)
				}
			}
		}
	}
}

func TestP70SameInNoWord(t *testing.T) {
	for _, m := range someMemories() {
		if got := bank.Same(m, m); len(got) != 0 {
			t.Errorf("Same(%v, itself) = %v", m, got)
		}
	}
}

// Each word differs in one bit at a time, so that a comparison of a part of the word would fail.
func TestP70SameInOneWord(t *testing.T) {
	for _, m := range someMemories() {
		old := flat(m)
		for a := range 64 {
			for bit := range 64 {
				n := filled(func(b int) uint64 {
					if b == a {
						return old[b] ^ 1<<bit
					}
					return old[b]
				})
				expectSame(t, m, n, []int{a})
			}
		}
	}
}

func TestP70SameInEveryWord(t *testing.T) {
	var all []int
	for a := range 64 {
		all = append(all, a)
	}
	for i, m := range someMemories() {
		old := flat(m)
		n := filled(func(a int) uint64 { return old[a] + 1<<(i*15) })
		expectSame(t, m, n, all)
	}
}

func TestP70SameInSomeWords(t *testing.T) {
	for _, want := range [][]int{
		{0, 63},
		{3, 4},
		{0, 1, 2, 3},
		{60, 61, 62, 63},
		{1, 5, 9, 13},
		{2, 10, 11, 33, 34, 47, 48, 62},
	} {
		for _, m := range someMemories() {
			old := flat(m)
			n := filled(func(a int) uint64 {
				if slices.Contains(want, a) {
					return ^old[a]
				}
				return old[a]
			})
			expectSame(t, m, n, want)
		}
	}
}

// The order is that of the addresses, and neither that of the changes nor that of the values.
func TestP70SameIsInIncreasingOrder(t *testing.T) {
	m := bank.New()
	for i, a := range []int{63, 8, 40, 0, 41, 7, 12} {
		n, e := bank.Poke(m, a, uint64(90-10*i))
		if e != api.OK {
			t.Fatalf("error %d", e)
		}
		m = n
	}
	expectSame(t, bank.New(), m, []int{0, 7, 8, 12, 40, 41, 63})
}

// expectSame compares in both directions: which memory is the older one makes no difference.
func expectSame(t *testing.T, m, n api.Memory, want []int) {
	t.Helper()
	if got := bank.Same(m, n); !slices.Equal(got, want) {
		t.Errorf("Same(%v, %v) = %v, want %v", m, n, got, want)
	}
	if got := bank.Same(n, m); !slices.Equal(got, want) {
		t.Errorf("Same(%v, %v) = %v, want %v", n, m, got, want)
	}
}

func TestP70SameAfterPoke(t *testing.T) {
	for _, m := range someMemories() {
		for a := range 64 {
			old := flat(m)[a]
			for _, v := range append([]uint64{old, old + 1}, values...) {
				n, e := bank.Poke(m, a, v)
				var want []int
				if v != old {
					want = []int{a}
				}
				if got := bank.Same(m, n); !slices.Equal(got, want) || e != api.OK {
					t.Errorf("after Poke(%v, %d, %d): %v, %d, want %v", m, a, v, got, e, want)
				}
			}
		}
	}
}

// Lines and addresses are two views of one memory.
func TestP70LinesAndAddressesAgree(t *testing.T) {
	for line := range 16 {
		m, e := bank.Write(bank.New(), line, api.Line{11, 12, 13, 14})
		if e != api.OK {
			t.Fatalf("error %d", e)
		}
		for k := range 4 {
			a := 4*line + k
			if v, e := bank.Word(m, a); v != uint64(11+k) || e != api.OK {
				t.Errorf("Word(%d) = %d, %d, want %d", a, v, e, 11+k)
			}
			want := api.Line{11, 12, 13, 14}
			want[k] = 99
			n, e := bank.Poke(m, a, 99)
			if w, f := bank.Read(n, line); w != want || e != api.OK || f != api.OK {
				t.Errorf("Read(%d) after Poke(%d) = %v, %d, %d, want %v", line, a, w, e, f, want)
			}
		}
	}
}

func TestP70TheMemoryThatWasPassedInIsUnchanged(t *testing.T) {
	for _, m := range someMemories() {
		before := flat(m)
		for _, k := range append([]int{0, 1, 3, 15, 62, 63}, badLines...) {
			written, _ := bank.Write(m, k, api.Line{91, 92, 93, 94})
			poked, _ := bank.Poke(m, k, 95)
			w, _ := bank.Read(m, k)
			bank.Word(m, k)
			bank.Same(m, written)
			bank.Same(poked, m)
			w[0], written[0][0], poked[15][3] = 96, 97, 98
			if !slices.Equal(flat(m), before) {
				t.Fatalf("%d: the memory is %v, was %v", k, m, before)
			}
		}
	}
}

// A line that was passed in or returned is not a part of the memory.
func TestP70LinesAreNotKept(t *testing.T) {
	w := api.Line{1, 2, 3, 4}
	m, _ := bank.Write(bank.New(), 6, w)
	w[2] = 8
	got, _ := bank.Read(m, 6)
	got[1] = 8
	if m != (api.Memory{6: {1, 2, 3, 4}}) {
		t.Errorf("%v", m)
	}
}

func TestP70ResultsOfSameShareNoMemory(t *testing.T) {
	m, n := api.Memory{}, api.Memory{2: {1, 1, 1, 1}, 9: {2: 5}}
	first, second := bank.Same(m, n), bank.Same(m, n)
	clear(first[:cap(first)])
	want := []int{8, 9, 10, 11, 38}
	if !slices.Equal(second, want) || !slices.Equal(bank.Same(m, n), want) {
		t.Errorf("%v, then %v, want %v", second, bank.Same(m, n), want)
	}
}
