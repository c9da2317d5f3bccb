package order_test

import (
	"math"
	"slices"
	"testing"

	"ringdove/api"
	"ringdove/atomic"
	"ringdove/order"
)

// values includes words that differ in one half only, so that a word that is cut off is seen.
var values = []uint64{0, 1, 2, 1 << 31, 1 << 32, 1 << 63, math.MaxUint32, math.MaxUint64}

func load(node, a int, v uint64) api.Told {
	return api.Told{Deed: api.Deed{Node: node, Kind: api.KLoad, Addr: a}, V: v}
}

func store(node, a int, v uint64) api.Told {
	return api.Told{Deed: api.Deed{Node: node, Kind: api.KStore, Addr: a, Value: v}}
}

func swap(node, a int, v, old uint64) api.Told {
	return api.Told{Deed: api.Deed{Node: node, Kind: api.KSwap, Addr: a, Value: v}, V: old}
}

func put(node, a int) api.Told {
	return api.Told{Deed: api.Deed{Node: node, Kind: api.KPut, Addr: a}}
}

// filled returns a memory in which all words differ.
func filled() api.Memory {
	var m api.Memory
	for i := range m {
		for k := range m[i] {
			m[i][k] = uint64(i)<<40 + uint64(k) + 100
		}
	}
	return m
}

// operation returns the operation with index i of a node. The first 200 of them all differ.
func operation(node, i int) api.Deed {
	d := api.Deed{Node: node, Kind: api.KLoad + api.Kind((i+i/64)%4), Addr: i % 64}
	if d.Kind == api.KStore || d.Kind == api.KSwap {
		d.Value = uint64(i)<<40 + uint64(node)
	}
	return d
}

// mixed returns n operations of all nodes and kinds, many of them at the same addresses.
func mixed(n int) []api.Deed {
	var l []api.Deed
	for i := range n {
		d := operation(i*i%8, i*7+i/4)
		d.Addr = i * i % 5 * 15
		l = append(l, d)
	}
	return l
}

// observed returns the operations with the results that package atomic tells.
func observed(t *testing.T, m api.Memory, l []api.Deed) []api.Told {
	t.Helper()
	_, results, e := atomic.Play(m, l)
	if e != api.OK {
		t.Fatalf("Play(%+v): error %d", l, e)
	}
	var seen []api.Told
	for i, d := range l {
		seen = append(seen, api.Told{Deed: d, V: results[i]})
	}
	return seen
}

type failure struct {
	o api.Told
	e api.Errno
}

// wrong returns observations of wrong operations: each error of atomic.Right, alone and together with later ones.
func wrong() []failure {
	return []failure{
		{api.Told{Deed: api.Deed{Node: -1, Kind: api.KLoad}}, api.ErrRange},
		{api.Told{Deed: api.Deed{Node: 8, Kind: api.KStore, Value: 1}}, api.ErrRange},
		{api.Told{Deed: api.Deed{Node: math.MinInt, Kind: 9, Addr: 64}, V: 1}, api.ErrRange},
		{api.Told{Deed: api.Deed{Node: math.MaxInt, Kind: api.KPut, Value: 1}}, api.ErrRange},
		{api.Told{}, api.ErrArg},
		{api.Told{Deed: api.Deed{Node: 7, Kind: 5, Addr: -1}}, api.ErrArg},
		{api.Told{Deed: api.Deed{Node: 1, Kind: -1, Value: 1}, V: math.MaxUint64}, api.ErrArg},
		{api.Told{Deed: api.Deed{Node: 1, Kind: api.KSwap, Addr: 64}}, api.ErrRange},
		{api.Told{Deed: api.Deed{Kind: api.KPut, Addr: -1, Value: 1}}, api.ErrRange},
		{api.Told{Deed: api.Deed{Node: 7, Kind: api.KLoad, Addr: math.MaxInt}, V: 7}, api.ErrRange},
		{api.Told{Deed: api.Deed{Kind: api.KLoad, Value: 1}, V: 1}, api.ErrForm},
		{api.Told{Deed: api.Deed{Node: 7, Kind: api.KPut, Addr: 63, Value: math.MaxUint64}}, api.ErrForm},
	}
}

func expectLegal(t *testing.T, m api.Memory, l []api.Told, want bool) {
	t.Helper()
	if is, e := order.Legal(m, l); is != want || e != api.OK {
		t.Errorf("Legal(%v, %+v) = %v, %d, want %v", m, l, is, e, want)
	}
}

func expectKeeps(t *testing.T, p [][]api.Deed, l []api.Told, want bool) {
	t.Helper()
	if is, e := order.Keeps(p, l); is != want || e != api.OK {
		t.Errorf("Keeps(%+v, %+v) = %v, %d, want %v", p, l, is, e, want)
	}
}

func expectKeepsError(t *testing.T, p [][]api.Deed, l []api.Told, want api.Errno) {
	t.Helper()
	if is, e := order.Keeps(p, l); is || e != want {
		t.Errorf("Keeps(%d programs, %d observations) = %v, %d, want false, %d", len(p), len(l), is, e, want)
	}
}

// expectError expects the error from Legal, and from Keeps for programs that the operations keep, for none, and for too many.
func expectError(t *testing.T, l []api.Told, want api.Errno) {
	t.Helper()
	if is, e := order.Legal(filled(), l); is || e != want {
		t.Errorf("Legal(%d observations) = %v, %d, want false, %d", len(l), is, e, want)
	}
	kept := make([][]api.Deed, 8)
	for _, o := range l {
		if node := o.Deed.Node; node >= 0 && node < 8 {
			kept[node] = append(kept[node], o.Deed)
		}
	}
	for _, p := range [][][]api.Deed{kept, nil, make([][]api.Deed, 9)} {
		expectKeepsError(t, p, l, want)
	}
}

// The results are written out here, because the other tests take them from package atomic.
func TestP130LegalEachKind(t *testing.T) {
	m := api.Memory{0: {1, 2, 3, 4}, 15: {61, 62, 63, 64}}
	for _, x := range []struct {
		l  []api.Told
		is bool
	}{
		{[]api.Told{load(0, 0, 1)}, true},
		{[]api.Told{load(0, 0, 0)}, false},
		{[]api.Told{load(7, 63, 64)}, true},
		{[]api.Told{load(7, 63, 63)}, false},
		{[]api.Told{store(3, 63, 9), load(4, 63, 9)}, true},
		{[]api.Told{store(3, 63, 9), load(4, 63, 64)}, false},
		{[]api.Told{store(3, 62, 9), load(4, 63, 64)}, true},
		{[]api.Told{load(4, 63, 9), store(3, 63, 9)}, false},
		{[]api.Told{{Deed: store(0, 0, 9).Deed, V: 1}}, false},
		{[]api.Told{{Deed: store(0, 0, 9).Deed, V: 9}}, false},
		{[]api.Told{swap(0, 0, 9, 1), load(0, 0, 9)}, true},
		{[]api.Told{swap(0, 0, 9, 9)}, false},
		{[]api.Told{swap(0, 0, 9, 1), load(0, 0, 1)}, false},
		{[]api.Told{swap(0, 1, 3, 2), swap(5, 1, 4, 3), load(1, 1, 4)}, true},
		{[]api.Told{swap(5, 1, 4, 3), swap(0, 1, 3, 2), load(1, 1, 4)}, false},
		{[]api.Told{put(0, 0), load(0, 0, 1)}, true},
		{[]api.Told{{Deed: put(0, 0).Deed, V: 1}}, false},
		{[]api.Told{load(0, 2, 3), load(0, 2, 3), load(1, 3, 4), load(2, 4, 0)}, true},
	} {
		expectLegal(t, m, x.l, x.is)
	}
}

func TestP130LegalNothingObserved(t *testing.T) {
	for _, m := range []api.Memory{{}, filled()} {
		expectLegal(t, m, nil, true)
		expectLegal(t, m, []api.Told{}, true)
		expectLegal(t, m, make([]api.Told, 0, 300), true)
	}
}

// Legal of what package atomic tells, and of the same with one result changed.
func TestP130LegalAnyLength(t *testing.T) {
	for _, m := range []api.Memory{{}, filled()} {
		for n := range 201 {
			l := observed(t, m, mixed(n))
			expectLegal(t, m, l, true)
			for i := range l {
				if n < 20 || n > 198 || i == 0 || i == n-1 {
					changed := slices.Clone(l)
					changed[i].V ^= 1 << (i * 13 % 64)
					expectLegal(t, m, changed, false)
				}
			}
		}
	}
}

func TestP130LegalEachBit(t *testing.T) {
	m := filled()
	l := observed(t, m, mixed(12))
	for i := range l {
		for bit := range 64 {
			changed := slices.Clone(l)
			changed[i].V ^= 1 << bit
			expectLegal(t, m, changed, false)
		}
	}
}

// The words that are observed first are those of the memory.
func TestP130LegalEachWordOfTheMemory(t *testing.T) {
	m := filled()
	for a := range 64 {
		for _, v := range values {
			n := m
			n[a/4][a%4] = v
			expectLegal(t, n, []api.Told{load(1, a, v)}, true)
			expectLegal(t, m, []api.Told{load(1, a, v)}, false)
			expectLegal(t, n, []api.Told{swap(2, a, 5, v), load(1, a, 5)}, true)
			expectLegal(t, m, []api.Told{swap(2, a, 5, v), load(1, a, 5)}, false)
		}
	}
}

// Any node may have performed the operations.
func TestP130LegalAnyNode(t *testing.T) {
	for a := range 8 {
		for b := range 8 {
			expectLegal(t, api.Memory{}, []api.Told{store(a, 9, 4), load(b, 9, 4)}, true)
			expectLegal(t, api.Memory{}, []api.Told{store(a, 9, 4), load(b, 9, 0)}, false)
		}
	}
}

func TestP130TooManyObservations(t *testing.T) {
	for _, n := range []int{201, 202, 256, 400, 1000} {
		l := observed(t, filled(), mixed(200))
		for len(l) < n {
			l = append(l, put(1, 2))
		}
		expectError(t, l, api.ErrLarge)
		// The error of an operation comes later.
		for _, x := range wrong() {
			for _, i := range []int{0, 100, 200, n - 1} {
				changed := slices.Clone(l)
				changed[i] = x.o
				expectError(t, changed, api.ErrLarge)
			}
		}
		expectError(t, make([]api.Told, n), api.ErrLarge)
	}
}

// The limit is that of the length, and not that of the capacity.
func TestP130CapacityBeyondTheLimit(t *testing.T) {
	m := filled()
	l := append(observed(t, m, mixed(200)), api.Told{}, load(0, 0, 1))[:200]
	expectLegal(t, m, l, true)
	expectKeeps(t, programsOf(l), l, true)
}

func TestP130OneWrongOperation(t *testing.T) {
	for _, x := range wrong() {
		for _, n := range []int{1, 2, 5, 200} {
			for i := range n {
				l := observed(t, filled(), mixed(n))
				l[i] = x.o
				expectError(t, l, x.e)
			}
		}
	}
}

func TestP130TheFirstWrongOperationCounts(t *testing.T) {
	for _, x := range wrong() {
		for _, y := range wrong() {
			for _, at := range [][2]int{{0, 1}, {0, 199}, {3, 4}, {17, 90}, {198, 199}} {
				l := observed(t, filled(), mixed(200))
				l[at[0]], l[at[1]] = x.o, y.o
				expectError(t, l, x.e)
			}
		}
	}
}

// A wrong operation is an error also after a result that is not legal, and after an operation of no program.
func TestP130AWrongOperationAfterAWrongResult(t *testing.T) {
	for _, x := range wrong() {
		l := []api.Told{load(0, 0, 99), store(1, 0, 1), x.o}
		expectError(t, l, x.e)
		expectKeepsError(t, [][]api.Deed{{operation(0, 5)}, nil}, l, x.e)
	}
}

func TestP130LegalMemoryIsUnchanged(t *testing.T) {
	m := filled()
	before := m
	for _, n := range []int{0, 1, 7, 200, 201} {
		l := make([]api.Told, n)
		for i := range l {
			l[i] = store(i%8, i%64, 3)
		}
		order.Legal(m, l)
		if m != before {
			t.Fatalf("memory is %v, was %v", m, before)
		}
	}
}
