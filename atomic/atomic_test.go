package atomic_test

import (
	"math"
	"slices"
	"testing"

	"ringdove/api"
	"ringdove/atomic"
)

var kinds = []api.Kind{api.KLoad, api.KStore, api.KSwap, api.KPut}

// values includes words that differ in one half only, so that a word that is cut off is seen.
var values = []uint64{0, 1, 7, 1 << 31, 1 << 32, 1 << 63, math.MaxUint32, math.MaxUint64}

var badNodes = []int{math.MinInt, math.MinInt + 3, -8, -1, 8, 9, 16, 256, 1 << 32, math.MaxInt}

var badKinds = []api.Kind{math.MinInt, -4, -1, 0, 5, 6, 8, 257, 1<<32 + 1, math.MaxInt}

var badAddresses = []int{math.MinInt, math.MinInt + 3, -64, -4, -1, 64, 65, 67, 256, 1 << 32, math.MaxInt}

// filled returns a memory whose word at address a is f(a). The addresses are counted, so that they do not rest on the arithmetic under test.
func filled(f func(a int) uint64) api.Memory {
	var m api.Memory
	a := 0
	for i := range m {
		for k := range m[i] {
			m[i][k] = f(a)
			a++
		}
	}
	return m
}

// flat returns the words of a memory in the order of their addresses.
func flat(m api.Memory) []uint64 {
	var l []uint64
	for _, w := range m {
		l = append(l, w[:]...)
	}
	return l
}

// someMemories returns memories of zeros, of words that all differ, of equal words, and of extreme words.
func someMemories() []api.Memory {
	return []api.Memory{
		{},
		filled(func(a int) uint64 { return uint64(a) + 100 }),
		filled(func(a int) uint64 { return 7 }),
		filled(func(a int) uint64 { return math.MaxUint64 - uint64(a)<<32 }),
	}
}

// takes reports whether an operation of the kind may have a Value other than 0.
func takes(k api.Kind) bool { return k == api.KStore || k == api.KSwap }

// eachRight visits operations without an error: every node, kind and address.
func eachRight(f func(d api.Deed)) {
	for node := range 8 {
		for _, k := range kinds {
			for a := range 64 {
				f(api.Deed{Node: node, Kind: k, Addr: a})
				for _, v := range values {
					if takes(k) {
						f(api.Deed{Node: node, Kind: k, Addr: a, Value: v})
					}
				}
			}
		}
	}
}

// expectWrong expects the error from Right, and from Do and Play with zero values beside it.
func expectWrong(t *testing.T, d api.Deed, want api.Errno) {
	t.Helper()
	if e := atomic.Right(d); e != want {
		t.Errorf("Right(%+v) = %d, want %d", d, e, want)
	}
	for _, m := range someMemories() {
		if n, v, e := atomic.Do(m, d); n != (api.Memory{}) || v != 0 || e != want {
			t.Errorf("Do(%v, %+v) = %v, %d, %d, want zeros, %d", m, d, n, v, e, want)
		}
		expectFailure(t, m, []api.Deed{d}, want)
	}
}

func expectFailure(t *testing.T, m api.Memory, l []api.Deed, want api.Errno) {
	t.Helper()
	if n, told, e := atomic.Play(m, l); n != (api.Memory{}) || len(told) != 0 || e != want {
		t.Errorf("Play(%v, %+v) = %v, %v, %d, want zeros, %d", m, l, n, told, e, want)
	}
}

func expectPlay(t *testing.T, m api.Memory, l []api.Deed, words, told []uint64) {
	t.Helper()
	n, got, e := atomic.Play(m, l)
	if !slices.Equal(flat(n), words) || !slices.Equal(got, told) || e != api.OK {
		t.Errorf("Play(%v, %+v) = %v, %v, %d, want %v, %v", m, l, n, got, e, words, told)
	}
}

func TestP90RightOperations(t *testing.T) {
	eachRight(func(d api.Deed) {
		if e := atomic.Right(d); e != api.OK {
			t.Errorf("Right(%+v) = %d", d, e)
		}
	})
}

func TestP90NoNode(t *testing.T) {
	for _, node := range badNodes {
		for _, k := range kinds {
			expectWrong(t, api.Deed{Node: node, Kind: k, Addr: 5}, api.ErrRange)
		}
	}
}

func TestP90NoKind(t *testing.T) {
	for _, k := range badKinds {
		for _, node := range []int{0, 3, 7} {
			expectWrong(t, api.Deed{Node: node, Kind: k, Addr: 5}, api.ErrArg)
		}
	}
}

func TestP90NoAddress(t *testing.T) {
	for _, a := range badAddresses {
		for _, k := range kinds {
			expectWrong(t, api.Deed{Node: 3, Kind: k, Addr: a}, api.ErrRange)
		}
	}
}

func TestP90ValueOfALoadOrAPut(t *testing.T) {
	for _, v := range values {
		if v == 0 {
			continue
		}
		for _, k := range []api.Kind{api.KLoad, api.KPut} {
			for _, a := range []int{0, 5, 63} {
				expectWrong(t, api.Deed{Node: 7, Kind: k, Addr: a, Value: v}, api.ErrForm)
			}
		}
	}
}

// Every combination of wrong fields has the error of the first one that is wrong.
func TestP90OrderOfErrors(t *testing.T) {
	for _, node := range badNodes {
		for _, k := range append(slices.Clone(badKinds), kinds...) {
			for _, a := range append(slices.Clone(badAddresses), 0, 63) {
				expectFirst(t, api.Deed{Node: node, Kind: k, Addr: a}, api.ErrRange)
			}
		}
	}
	for _, k := range badKinds {
		for _, a := range append(slices.Clone(badAddresses), 0, 63) {
			expectFirst(t, api.Deed{Node: 7, Kind: k, Addr: a}, api.ErrArg)
		}
	}
	for _, k := range kinds {
		for _, a := range badAddresses {
			expectFirst(t, api.Deed{Node: 7, Kind: k, Addr: a}, api.ErrRange)
		}
	}
}

// expectFirst expects the error without a Value, and with one, which has its error last.
func expectFirst(t *testing.T, d api.Deed, want api.Errno) {
	t.Helper()
	var m api.Memory
	for _, d.Value = range []uint64{0, 1, math.MaxUint64} {
		_, _, e := atomic.Do(m, d)
		_, _, f := atomic.Play(m, []api.Deed{d})
		if g := atomic.Right(d); g != want || e != want || f != want {
			t.Errorf("%+v: errors %d, %d and %d, want %d", d, g, e, f, want)
		}
	}
}

// The operations of all nodes at all addresses, and what they do to every word of the memory.
func TestP90Do(t *testing.T) {
	for _, m := range someMemories() {
		words := flat(m)
		eachRight(func(d api.Deed) {
			want, told := slices.Clone(words), uint64(0)
			switch d.Kind {
			case api.KLoad:
				told = words[d.Addr]
			case api.KStore:
				want[d.Addr] = d.Value
			case api.KSwap:
				told, want[d.Addr] = words[d.Addr], d.Value
			}
			n, v, e := atomic.Do(m, d)
			if !slices.Equal(flat(n), want) || v != told || e != api.OK {
				t.Errorf("Do(%v, %+v) = %v, %d, %d, want %v, %d", m, d, n, v, e, want, told)
			}
		})
	}
}

// The numbers are written out here, because the other tests count them.
func TestP90FirstAndLast(t *testing.T) {
	m := api.Memory{0: {1, 2, 3, 4}, 15: {61, 62, 63, 64}}
	for _, x := range []struct {
		d    api.Deed
		told uint64
		want api.Memory
	}{
		{api.Deed{Node: 0, Kind: api.KLoad, Addr: 0}, 1, m},
		{api.Deed{Node: 7, Kind: api.KLoad, Addr: 63}, 64, m},
		{api.Deed{Node: 7, Kind: api.KStore, Addr: 0, Value: 9}, 0, api.Memory{0: {9, 2, 3, 4}, 15: m[15]}},
		{api.Deed{Node: 0, Kind: api.KStore, Addr: 63}, 0, api.Memory{0: m[0], 15: {61, 62, 63, 0}}},
		{api.Deed{Node: 0, Kind: api.KSwap, Addr: 0}, 1, api.Memory{0: {0, 2, 3, 4}, 15: m[15]}},
		{api.Deed{Node: 7, Kind: api.KSwap, Addr: 63, Value: math.MaxUint64}, 64, api.Memory{0: m[0], 15: {61, 62, 63, math.MaxUint64}}},
		{api.Deed{Node: 0, Kind: api.KPut, Addr: 0}, 0, m},
		{api.Deed{Node: 7, Kind: api.KPut, Addr: 63}, 0, m},
	} {
		if n, v, e := atomic.Do(m, x.d); n != x.want || v != x.told || e != api.OK {
			t.Errorf("Do(%+v) = %v, %d, %d, want %v, %d", x.d, n, v, e, x.want, x.told)
		}
	}
}

func TestP90TheMemoryThatWasPassedInIsUnchanged(t *testing.T) {
	for _, m := range someMemories() {
		before := m
		eachRight(func(d api.Deed) {
			n, _, _ := atomic.Do(m, d)
			n[0][0], n[15][3] = 97, 98
			d.Addr = -1
			atomic.Do(m, d)
			if m != before {
				t.Fatalf("after Do(%+v) the memory is %v, was %v", d, m, before)
			}
		})
	}
}

func TestP91TwoSwaps(t *testing.T) {
	for a := range 64 {
		l := []api.Deed{{Node: 1, Kind: api.KSwap, Addr: a, Value: 3}, {Node: 0, Kind: api.KSwap, Addr: a, Value: 4}}
		want := make([]uint64, 64)
		want[a] = 4
		expectPlay(t, api.Memory{}, l, want, []uint64{0, 3})
		slices.Reverse(l)
		want[a] = 3
		expectPlay(t, api.Memory{}, l, want, []uint64{0, 4})
	}
}

func TestP91EachKindAfterEach(t *testing.T) {
	m := api.Memory{1: {5, 6, 7, 8}}
	want := flat(m)
	want[4], want[5], want[63] = 20, math.MaxUint64, 0
	expectPlay(t, m, []api.Deed{
		{Node: 0, Kind: api.KLoad, Addr: 5},
		{Node: 1, Kind: api.KStore, Addr: 5, Value: 10},
		{Node: 2, Kind: api.KLoad, Addr: 5},
		{Node: 7, Kind: api.KSwap, Addr: 4, Value: 20},
		{Node: 1, Kind: api.KPut, Addr: 5},
		{Node: 0, Kind: api.KSwap, Addr: 5, Value: math.MaxUint64},
		{Node: 0, Kind: api.KPut, Addr: 5},
		{Node: 7, Kind: api.KLoad, Addr: 5},
		{Node: 7, Kind: api.KLoad, Addr: 4},
		{Node: 3, Kind: api.KLoad, Addr: 6},
		{Node: 3, Kind: api.KStore, Addr: 63, Value: 1},
		{Node: 3, Kind: api.KStore, Addr: 63},
		{Node: 3, Kind: api.KSwap, Addr: 63},
	}, want, []uint64{6, 0, 10, 5, 0, 10, 0, math.MaxUint64, 20, 7, 0, 0, 0})
}

// long returns n operations, of all kinds and nodes, and the words and results that they leave from the given words.
func long(n int, words []uint64) ([]api.Deed, []uint64, []uint64) {
	var l []api.Deed
	var told []uint64
	words = slices.Clone(words)
	for i := range n {
		d := api.Deed{Node: i % 8, Kind: kinds[i/3%4], Addr: i * i % 7 * 9}
		if takes(d.Kind) {
			d.Value = uint64(i) << (i % 60)
		}
		v := words[d.Addr]
		if d.Kind == api.KStore || d.Kind == api.KPut {
			v = 0
		}
		if takes(d.Kind) {
			words[d.Addr] = d.Value
		}
		l, told = append(l, d), append(told, v)
	}
	return l, words, told
}

func TestP91EveryNumberOfOperations(t *testing.T) {
	for _, m := range someMemories() {
		for n := range 201 {
			l, words, told := long(n, flat(m))
			expectPlay(t, m, l, words, told)
		}
	}
}

func TestP91NoOperations(t *testing.T) {
	for _, m := range someMemories() {
		expectPlay(t, m, nil, flat(m), nil)
		expectPlay(t, m, []api.Deed{}, flat(m), nil)
		expectPlay(t, m, make([]api.Deed, 0, 300), flat(m), nil)
	}
}

// The limit is that of the length, and not that of the capacity.
func TestP91CapacityBeyondTheLimit(t *testing.T) {
	m := someMemories()[1]
	l, words, told := long(200, flat(m))
	expectPlay(t, m, append(slices.Grow(l, 100), api.Deed{Node: -1})[:200], words, told)
}

func TestP91TooManyOperations(t *testing.T) {
	for _, m := range someMemories() {
		for _, n := range []int{201, 202, 256, 400, 1000} {
			l, _, _ := long(n, flat(m))
			expectFailure(t, m, l, api.ErrLarge)
		}
	}
}

// wrong has one operation for each error of Right.
var wrong = []struct {
	d api.Deed
	e api.Errno
}{
	{api.Deed{Node: 8, Kind: api.KLoad}, api.ErrRange},
	{api.Deed{Node: 1}, api.ErrArg},
	{api.Deed{Node: 1, Kind: api.KSwap, Addr: 64}, api.ErrRange},
	{api.Deed{Node: 1, Kind: api.KPut, Value: 1}, api.ErrForm},
}

func TestP91TooManyComesBeforeAWrongOperation(t *testing.T) {
	m := someMemories()[1]
	for _, x := range wrong {
		for _, i := range []int{0, 100, 199, 200} {
			l, _, _ := long(201, flat(m))
			l[i] = x.d
			expectFailure(t, m, l, api.ErrLarge)
		}
	}
}

func TestP91OneWrongOperation(t *testing.T) {
	m := someMemories()[1]
	for _, x := range wrong {
		for _, n := range []int{1, 2, 5, 200} {
			for i := range n {
				l, _, _ := long(n, flat(m))
				l[i] = x.d
				expectFailure(t, m, l, x.e)
			}
		}
	}
}

func TestP91TheFirstWrongOperationCounts(t *testing.T) {
	m := someMemories()[1]
	for _, x := range wrong {
		for _, y := range wrong {
			for _, at := range [][2]int{{0, 1}, {0, 199}, {3, 4}, {17, 90}, {198, 199}} {
				l, _, _ := long(200, flat(m))
				l[at[0]], l[at[1]] = x.d, y.d
				expectFailure(t, m, l, x.e)
			}
		}
	}
}

// Lists with and without an error, with operations in the capacity beyond their length.
func TestP91WhatWasPassedInIsUnchanged(t *testing.T) {
	firsts := []api.Deed{{Kind: api.KStore, Value: 1}}
	for _, x := range wrong {
		firsts = append(firsts, x.d)
	}
	m := someMemories()[1]
	for _, n := range []int{0, 1, 7, 199, 200, 201} {
		for _, d := range firsts {
			l, _, _ := long(n+3, flat(m))
			l[0] = d
			before, list := m, slices.Clone(l)
			got, told, _ := atomic.Play(m, l[:n])
			got[3][1] = 97
			clear(told[:cap(told)])
			if m != before || !slices.Equal(l, list) {
				t.Errorf("%d operations: %v, %+v, were %v, %+v", n, m, l, before, list)
			}
		}
	}
}

func TestP91ResultsShareNoMemory(t *testing.T) {
	m := someMemories()[1]
	l, words, want := long(50, flat(m))
	_, first, _ := atomic.Play(m, l)
	_, second, _ := atomic.Play(m, l)
	clear(first[:cap(first)])
	clear(l)
	if !slices.Equal(second, want) {
		t.Errorf("%v, want %v", second, want)
	}
	l, _, _ = long(50, flat(m))
	expectPlay(t, m, l, words, want)
}
