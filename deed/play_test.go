package deed_test

import (
	"math"
	"reflect"
	"slices"
	"testing"

	"ringdove/agree"
	"ringdove/api"
	"ringdove/atomic"
	"ringdove/deed"
)

// The fields of each result are written out here, because the other tests compute what they expect.
func TestP102Done(t *testing.T) {
	w := filled(narrow)
	for i, x := range []struct {
		d    api.Deed
		want api.Done
	}{
		{api.Deed{Node: 0, Kind: api.KLoad, Addr: 21}, api.Done{Told: 1051, From: -1, Out: -1}},
		{api.Deed{Node: 0, Kind: api.KLoad, Addr: 22}, api.Done{Told: 1052, Hit: true, From: -1, Out: -1}},
		{api.Deed{Node: 1, Kind: api.KLoad, Addr: 20}, api.Done{Told: 1050, From: -1, Out: -1}},
		{api.Deed{Node: 1, Kind: api.KSwap, Addr: 20, Value: 1}, api.Done{Told: 1050, From: -1, Out: -1}},
		{api.Deed{Node: 1, Kind: api.KSwap, Addr: 20, Value: 2}, api.Done{Told: 1, Hit: true, From: -1, Out: -1}},
		{api.Deed{Node: 2, Kind: api.KSwap, Addr: 20, Value: 3}, api.Done{Told: 2, From: 1, Out: -1}},
		{api.Deed{Node: 0, Kind: api.KLoad, Addr: 20}, api.Done{Told: 3, From: 2, Out: -1}},
		{api.Deed{Node: 1, Kind: api.KLoad, Addr: 20}, api.Done{Told: 3, From: 2, Out: -1}},
		{api.Deed{Node: 1, Kind: api.KStore, Addr: 0, Value: 4}, api.Done{From: -1, Out: 5}},
		{api.Deed{Node: 2, Kind: api.KStore, Addr: 0, Value: 5}, api.Done{From: 1, Out: 5, Wrote: true}},
		{api.Deed{Node: 0, Kind: api.KStore, Addr: 21, Value: 6}, api.Done{From: -1, Out: -1}},
		{api.Deed{Node: 0, Kind: api.KLoad, Addr: 3}, api.Done{Told: 1003, From: 2, Out: 5, Wrote: true}},
		{api.Deed{Node: 0, Kind: api.KPut, Addr: 1}, api.Done{Hit: true, From: -1, Out: 0}},
		{api.Deed{Node: 2, Kind: api.KPut, Addr: 3}, api.Done{From: -1, Out: 0, Wrote: true}},
		{api.Deed{Node: 2, Kind: api.KLoad, Addr: 0}, api.Done{Told: 5, From: -1, Out: -1}},
		{api.Deed{Node: 2, Kind: api.KStore, Addr: 63, Value: 7}, api.Done{From: -1, Out: 0}},
		{api.Deed{Node: 2, Kind: api.KPut, Addr: 60}, api.Done{From: -1, Out: 15, Wrote: true}},
	} {
		next, done := expectDo(t, narrow, w, x.d)
		if done != x.want {
			t.Fatalf("%d: Do(%+v) = %+v, want %+v", i, x.d, done, x.want)
		}
		w = next
	}
	memory := filled(narrow).Memory
	memory[5][0], memory[5][1], memory[0][0], memory[15][3] = 3, 6, 5, 7
	if w.Memory != memory {
		t.Errorf("memory is %v, want %v", w.Memory, memory)
	}
}

// long returns n operations without an error from the given state, of all kinds and nodes, which follow one another
// on few lines, so that they meet; and what the model leaves and tells.
func long(c api.Config, w api.World, n int) ([]api.Deed, api.World, []api.Done) {
	var l []api.Deed
	var told []api.Done
	seed := uint32(17*c.Nodes + 5*c.Sets + c.Ways)
	draw := func(n int) int {
		seed = seed*1664525 + 1013904223
		return int(seed>>16) % n
	}
	for len(l) < n {
		d := operation(draw(c.Nodes), kinds[draw(4)], 4*(draw(6)*c.Sets%16)+draw(4), uint64(draw(1000))<<draw(54))
		if d.Kind == api.KPut && lookup(w, d.Node, d.Addr/4) == nil {
			continue
		}
		next, done := model(c, w, d)
		l, told, w = append(l, d), append(told, done), next
	}
	return l, w, told
}

// expectPlay compares Play with what is expected, and with plain memory.
func expectPlay(t *testing.T, c api.Config, w api.World, l []api.Deed, want api.World, told []api.Done) {
	t.Helper()
	got, done, e := deed.Play(c, w, l)
	if !reflect.DeepEqual(got, want) || !slices.Equal(done, told) || e != api.OK {
		t.Fatalf("Play(%+v, %v, %+v) = %v, %+v, %d, want %v, %+v", c, w, l, got, done, e, want, told)
	}
	flat, _ := agree.Flat(c, w)
	m, values, _ := atomic.Play(flat, l)
	if n, e := agree.Flat(c, got); n != m || e != api.OK {
		t.Fatalf("Play(%+v, %v, %+v): %v, %d, but %v in plain memory", c, w, l, n, e, m)
	}
	for i, v := range values {
		if done[i].Told != v {
			t.Fatalf("Play(%+v, %v, %+v): operation %d tells %d, but %d in plain memory", c, w, l, i, done[i].Told, v)
		}
	}
}

// Long runs in every configuration, one operation at a time and all together.
func TestP102LongRuns(t *testing.T) {
	eachConfig(func(c api.Config) {
		start := filled(c)
		l, want, told := long(c, start, 200)
		expectPlay(t, c, start, l, want, told)
		w := start
		for i, d := range l {
			next, done := expectDo(t, c, w, d)
			if done != told[i] {
				t.Fatalf("operation %d of %v: %+v, want %+v", i, l, done, told[i])
			}
			w = next
		}
	})
}

func TestP102PlayFromEveryState(t *testing.T) {
	for _, at := range shared {
		w := filled(three)
		spread(three, w, 4, at)
		l, want, told := long(three, w, 30)
		expectPlay(t, three, w, l, want, told)
	}
}

func TestP102EveryNumberOfOperations(t *testing.T) {
	w := filled(three)
	spread(three, w, 0, "OSS")
	spread(three, w, 1, "IIM")
	for n := range 201 {
		l, want, told := long(three, w, n)
		expectPlay(t, three, w, l, want, told)
	}
}

func TestP102NoOperations(t *testing.T) {
	eachConfig(func(c api.Config) {
		w := filled(c)
		spread(c, w, 3, "SO")
		for _, l := range [][]api.Deed{nil, {}, make([]api.Deed, 0, 300)} {
			expectPlay(t, c, w, l, w, nil)
		}
	})
}

// The limit is that of the length, and not that of the capacity.
func TestP102CapacityBeyondTheLimit(t *testing.T) {
	w := filled(three)
	l, want, told := long(three, w, 200)
	expectPlay(t, three, w, append(slices.Grow(l, 100), api.Deed{Node: -1})[:200], want, told)
}

// Too many operations come before an error of the state, and before one of an operation.
func TestP102TooManyOperations(t *testing.T) {
	w := filled(three)
	for _, n := range []int{201, 202, 256, 1000} {
		l, _, _ := long(three, w, n)
		expectNoPlay(t, three, w, l, api.ErrLarge)
		for _, x := range badWorlds() {
			expectNoPlay(t, x.c, x.w, l, api.ErrLarge)
		}
		for _, x := range wrong {
			for _, i := range []int{0, 100, 199, 200} {
				list := slices.Clone(l)
				list[i] = x.d
				expectNoPlay(t, three, w, list, api.ErrLarge)
			}
		}
		expectNoPlay(t, api.Config{}, api.World{}, make([]api.Deed, n), api.ErrLarge)
	}
}

// The state is examined before the operations, and also where there are none.
func TestP102StateBeforeOperations(t *testing.T) {
	good, _, _ := long(three, filled(three), 200)
	for name, x := range badWorlds() {
		t.Run(name, func(t *testing.T) {
			expectNoPlay(t, x.c, x.w, nil, x.e)
			expectNoPlay(t, x.c, x.w, good, x.e)
			for _, y := range wrong {
				expectNoPlay(t, x.c, x.w, append([]api.Deed{y.d}, good[:9]...), x.e)
			}
		})
	}
}

func TestP102OneWrongOperation(t *testing.T) {
	w := filled(three)
	good, _, _ := long(three, w, 200)
	for _, x := range wrong {
		for _, i := range []int{0, 1, 2, 50, 198, 199} {
			l := slices.Clone(good)
			l[i] = x.d
			expectNoPlay(t, three, w, l, x.e)
			expectNoPlay(t, three, w, l[:i+1], x.e)
		}
	}
}

func TestP102TheFirstWrongOperationCounts(t *testing.T) {
	w := filled(three)
	good, _, _ := long(three, w, 200)
	put := api.Deed{Node: 2, Kind: api.KPut, Addr: 63}
	for _, x := range wrong {
		for _, at := range [][2]int{{0, 1}, {0, 199}, {3, 4}, {17, 90}, {198, 199}} {
			for _, y := range wrong {
				l := slices.Clone(good)
				l[at[0]], l[at[1]] = x.d, y.d
				expectNoPlay(t, three, w, l, x.e)
			}
			l := slices.Clone(good)
			l[at[0]], l[at[1]] = x.d, put
			expectNoPlay(t, three, w, l, x.e)
			l[at[0]], l[at[1]] = put, x.d
			expectNoPlay(t, three, w, l, api.ErrNone)
		}
	}
}

// Whether KPut has an error depends on the operations before it.
func TestP102PutAfterOtherOperations(t *testing.T) {
	w := filled(narrow)
	load := func(node, line int) api.Deed { return api.Deed{Node: node, Kind: api.KLoad, Addr: 4 * line} }
	put := func(node, line int) api.Deed { return api.Deed{Node: node, Kind: api.KPut, Addr: 4 * line} }
	store := func(node, line int) api.Deed { return api.Deed{Node: node, Kind: api.KStore, Addr: 4 * line} }
	for i, x := range []struct {
		l []api.Deed
		e api.Errno
	}{
		{[]api.Deed{put(0, 5)}, api.ErrNone},
		{[]api.Deed{load(0, 5), put(0, 5)}, api.OK},
		{[]api.Deed{load(1, 5), put(0, 5)}, api.ErrNone},
		{[]api.Deed{load(0, 5), put(0, 5), put(0, 5)}, api.ErrNone},
		{[]api.Deed{load(0, 5), load(0, 6), put(0, 5)}, api.ErrNone},
		{[]api.Deed{load(0, 5), load(0, 6), put(0, 6)}, api.OK},
		{[]api.Deed{store(0, 5), store(1, 5), put(0, 5)}, api.ErrNone},
		{[]api.Deed{store(0, 5), store(1, 5), put(1, 5)}, api.OK},
		{[]api.Deed{store(0, 5), load(1, 5), put(0, 5), put(1, 5)}, api.OK},
	} {
		if x.e != api.OK {
			expectNoPlay(t, narrow, w, x.l, x.e)
		} else if got, done, e := deed.Play(narrow, w, x.l); len(got.Caches) != 3 || len(done) != len(x.l) || e != api.OK {
			t.Errorf("%d: %v, %+v, %d", i, got, done, e)
		}
	}
}

// roomy returns a state with the contents of w whose slices have room after their length, and a function that
// reports whether it is unchanged.
func roomy(w api.World) (api.World, func() bool) {
	caches := append(slices.Clone(w.Caches), api.Cache{{Ways: []api.Way{{At: api.M}}}})
	for i, h := range caches {
		sets := append(slices.Clone(h), api.Row{Tree: api.Tree{Top: true}})
		for k, r := range sets {
			ways := append(slices.Clone(r.Ways), api.Way{At: api.M, Line: 7})
			sets[k].Ways = ways[:len(r.Ways)]
		}
		caches[i] = sets[:len(h)]
	}
	w.Caches = caches[:len(w.Caches)]
	whole := func() []any {
		var all []any
		for _, h := range caches {
			for _, r := range h[:len(h)+1] {
				all = append(all, len(h), len(r.Ways), r.Tree, slices.Clone(r.Ways[:len(r.Ways)+1]))
			}
		}
		return append(all, w.Memory)
	}
	before := whole()
	return w, func() bool { return reflect.DeepEqual(whole(), before) }
}

// scribble changes all memory of a state, and leaves a number in each set.
func scribble(w api.World) {
	for i, h := range w.Caches[:cap(w.Caches)] {
		for k := range h[:cap(h)] {
			ways := h[:cap(h)][k].Ways
			for j := range ways[:cap(ways)] {
				ways[:cap(ways)][j] = api.Way{At: 77, Line: 100*i + k}
			}
			h[:cap(h)][k].Tree = api.Tree{Top: true, Low: true, High: true}
		}
	}
}

// isScribbled reports whether each set still has its own number: no two sets are the same memory.
func isScribbled(w api.World) bool {
	for i, h := range w.Caches {
		for k, r := range h {
			for _, x := range r.Ways {
				if x.Line != 100*i+k {
					return false
				}
			}
		}
	}
	return true
}

// manyStates returns states without and with an error, for configuration three.
func manyStates() []api.World {
	var all []api.World
	for _, at := range shared {
		w := filled(three)
		spread(three, w, 9, at)
		spread(three, w, 3, "IMI")
		all = append(all, w)
		full := clone(w)
		full.Caches[0][1].Ways[0] = api.Way{At: api.O, Line: 5, Data: fresh}
		all = append(all, full)
	}
	for _, x := range badWorlds() {
		all = append(all, x.w)
	}
	return all
}

func TestP102WhatWasPassedInIsUnchanged(t *testing.T) {
	for i, x := range manyStates() {
		for node := range 4 {
			for _, k := range append(slices.Clone(kinds), 0) {
				w, unchanged := roomy(x)
				d := operation(node, k, 37, 5)
				list := []api.Deed{d, {Node: 1, Kind: api.KLoad, Addr: 8}, {Node: 2, Kind: api.KStore, Addr: 4, Value: 1}, {Node: -7}}
				before := slices.Clone(list)
				deed.Hit(three, w, d)
				one, _, _ := deed.Do(three, w, d)
				all, done, _ := deed.Play(three, w, list[:3])
				none, _, _ := deed.Play(three, w, nil)
				for _, y := range []api.World{one, all, none} {
					scribble(y)
					if !isScribbled(y) {
						t.Fatalf("state %d, %+v: two sets of the result share memory", i, d)
					}
				}
				clear(done[:cap(done)])
				if !unchanged() || !slices.Equal(list, before) {
					t.Fatalf("state %d has changed by %+v: %v, %+v", i, d, w, list)
				}
			}
		}
	}
}

// A later change of what was passed in is not visible in a result, and results depend on nothing else.
func TestP102ResultsShareNoMemory(t *testing.T) {
	start := filled(three)
	spread(three, start, 9, "OSS")
	good, want, told := long(three, start, 60)
	for n := range 3 {
		w, l := clone(start), slices.Clone(good)
		one, _, _ := deed.Do(three, w, l[n])
		all, done, _ := deed.Play(three, w, l)
		none, _, _ := deed.Play(three, w, nil)
		scribble(w)
		clear(l)
		first, _ := model(three, start, good[n])
		if !reflect.DeepEqual(one, first) || !reflect.DeepEqual(all, want) || !reflect.DeepEqual(none, start) || !slices.Equal(done, told) {
			t.Errorf("%v, %v, %v, %+v", one, all, none, done)
		}
	}
}

// Numbers at the ends of their ranges have an error, and nothing panics.
func TestP102ExtremeArguments(t *testing.T) {
	ends := []int{math.MinInt, -1, 0, 1, 2, 3, 63, 64, math.MaxInt}
	for _, node := range ends {
		for _, kind := range ends {
			for _, a := range ends {
				d := api.Deed{Node: node, Kind: api.Kind(kind), Addr: a, Value: math.MaxUint64}
				good := node >= 0 && node < 3 && a >= 0 && a < 64 && (kind == 2 || kind == 3)
				_, e := deed.Hit(three, filled(three), d)
				_, _, f := deed.Do(three, filled(three), d)
				_, _, g := deed.Play(three, filled(three), []api.Deed{d})
				if (e == api.OK) != good || e != f || e != g {
					t.Errorf("%+v: errors %d, %d and %d", d, e, f, g)
				}
			}
		}
	}
}
