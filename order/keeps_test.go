package order_test

import (
	"math"
	"slices"
	"testing"

	"ringdove/api"
	"ringdove/order"
	"ringdove/prog"
)

// program returns the first n operations of a node.
func program(node, n int) []api.Deed {
	var l []api.Deed
	for i := range n {
		l = append(l, operation(node, i))
	}
	return l
}

// programs returns a program of each length, for node 0 and the nodes after it.
func programs(lengths ...int) [][]api.Deed {
	var p [][]api.Deed
	for node, n := range lengths {
		p = append(p, program(node, n))
	}
	return p
}

// programsOf returns the programs of eight nodes that the observations are all of.
func programsOf(l []api.Told) [][]api.Deed {
	p := make([][]api.Deed, 8)
	for _, o := range l {
		p[o.Deed.Node] = append(p[o.Deed.Node], o.Deed)
	}
	return p
}

// seen returns observations of the operations, with results that no memory has.
func seen(l ...api.Deed) []api.Told {
	var told []api.Told
	for i, d := range l {
		told = append(told, api.Told{Deed: d, V: math.MaxUint64 - uint64(i)})
	}
	return told
}

// merged returns observations of the operations of the programs in the order of the picks.
func merged(t *testing.T, p [][]api.Deed, picks []int) []api.Told {
	t.Helper()
	l, _, e := prog.Merge(api.Config{Nodes: len(p), Sets: 1, Ways: 1, Banks: 1}, p, picks)
	if e != api.OK {
		t.Fatalf("Merge(%+v, %d): error %d", p, picks, e)
	}
	return seen(l...)
}

// The programs are written out here, because the other tests merge them.
func TestP130KeepsTwoPrograms(t *testing.T) {
	p := programs(2, 3)
	a, b := p[0], p[1]
	for _, x := range []struct {
		l  []api.Deed
		is bool
	}{
		{nil, true},
		{[]api.Deed{a[0]}, true},
		{[]api.Deed{b[0]}, true},
		{[]api.Deed{a[0], a[1]}, true},
		{[]api.Deed{a[0], a[1], b[0], b[1], b[2]}, true},
		{[]api.Deed{b[0], a[0], b[1], b[2], a[1]}, true},
		{[]api.Deed{b[0], b[1], b[2], a[0]}, true},
		{[]api.Deed{a[1]}, false},
		{[]api.Deed{a[1], a[0]}, false},
		{[]api.Deed{a[0], a[0]}, false},
		{[]api.Deed{a[0], a[1], a[1]}, false},
		{[]api.Deed{a[0], a[1], a[0]}, false},
		{[]api.Deed{b[0], b[2]}, false},
		{[]api.Deed{b[0], b[1], b[2], a[1]}, false},
		{[]api.Deed{a[0], b[0], b[2], b[1], a[1]}, false},
		{[]api.Deed{operation(2, 0)}, false},
		{[]api.Deed{a[0], operation(7, 0)}, false},
	} {
		expectKeeps(t, p, seen(x.l...), x.is)
	}
}

func TestP130KeepsNothingObserved(t *testing.T) {
	for n := range 9 {
		for _, l := range [][]api.Told{nil, {}, make([]api.Told, 0, 300)} {
			expectKeeps(t, make([][]api.Deed, n), l, true)
			expectKeeps(t, programs(slices.Repeat([]int{5}, n)...), l, true)
		}
	}
}

// The same operation several times counts as often as it is there.
func TestP130KeepsEqualOperations(t *testing.T) {
	d := store(1, 5, 5).Deed
	for n := range 21 {
		p := [][]api.Deed{nil, slices.Repeat([]api.Deed{d}, n)}
		for k := range 30 {
			expectKeeps(t, p, seen(slices.Repeat([]api.Deed{d}, k)...), k <= n)
		}
	}
}

// Operations that merged programs give are kept; with an operation missing, twice or in another place they are not.
func TestP130KeepsMergedPrograms(t *testing.T) {
	for nodes := 2; nodes <= 8; nodes++ {
		lengths := []int{20, 0, 7, 1, 19, 2, 13, 20}[:nodes]
		p := programs(lengths...)
		for _, pick := range []func(i int) int{
			func(i int) int { return i % nodes },
			func(i int) int { return nodes - 1 - i/20%nodes },
			func(i int) int { return i * i % (nodes + 3) },
		} {
			var picks []int
			for i := range 200 {
				picks = append(picks, pick(i))
			}
			for _, n := range []int{0, 1, nodes, 30, 200} {
				l := merged(t, p, picks[:n])
				expectKeeps(t, p, l, true)
				expectChangedIsNotKept(t, p, l)
			}
		}
	}
}

func expectChangedIsNotKept(t *testing.T, p [][]api.Deed, l []api.Told) {
	t.Helper()
	for i, o := range l {
		node := o.Deed.Node
		expectKeeps(t, p, slices.Insert(slices.Clone(l), i, o), false)
		later := func(x api.Told) bool { return x.Deed.Node == node }
		k := slices.IndexFunc(l[i+1:], later)
		// Without its last operation a node's others are still the first ones of its program.
		expectKeeps(t, p, slices.Delete(slices.Clone(l), i, i+1), k < 0)
		if k >= 0 {
			changed := slices.Clone(l)
			changed[i], changed[i+1+k] = changed[i+1+k], changed[i]
			expectKeeps(t, p, changed, false)
		}
	}
}

// Each field of the operation counts, and the result does not.
func TestP130KeepsEachField(t *testing.T) {
	p := programs(3, 4, 2)
	l := merged(t, p, []int{0, 1, 2, 1, 0, 1, 2, 1, 0})
	for i := range l {
		for _, change := range []func(o *api.Told){
			func(o *api.Told) { o.Deed.Node = (o.Deed.Node + 1) % 3 },
			func(o *api.Told) { o.Deed.Node = 7 },
			func(o *api.Told) { o.Deed.Addr = (o.Deed.Addr + 1) % 64 },
			func(o *api.Told) { o.Deed.Addr = 63 },
			func(o *api.Told) { *o = store(o.Deed.Node, o.Deed.Addr, 1<<63) },
			func(o *api.Told) { *o = swap(o.Deed.Node, o.Deed.Addr, 1, 0) },
		} {
			changed := slices.Clone(l)
			change(&changed[i])
			expectKeeps(t, p, changed, false)
		}
		for _, v := range values {
			changed := slices.Clone(l)
			changed[i].V = v
			expectKeeps(t, p, changed, true)
		}
	}
}

func TestP130KeepsKindAndValue(t *testing.T) {
	deeds := []api.Deed{load(0, 3, 0).Deed, put(0, 3).Deed}
	for _, v := range values {
		deeds = append(deeds, store(0, 3, v).Deed, swap(0, 3, v, 0).Deed)
	}
	for i, a := range deeds {
		for k, b := range deeds {
			expectKeeps(t, [][]api.Deed{{a}}, seen(b), i == k)
			expectKeeps(t, [][]api.Deed{{put(0, 1).Deed, a}}, seen(put(0, 1).Deed, b), i == k)
		}
	}
}

// The operations of a node can be each number of the first ones of its program, but not more than all of them.
func TestP130KeepsEachPrefix(t *testing.T) {
	for node := range 8 {
		for n := 0; n <= 20; n++ {
			p := make([][]api.Deed, 8)
			p[node] = program(node, n)
			l := seen(program(node, n+3)...)
			for k := range l {
				expectKeeps(t, p, l[:k], k <= n)
			}
		}
	}
}

// What follows the length of a program, or of the programs, is not there.
func TestP130KeepsCapacityBeyondTheLength(t *testing.T) {
	p := programs(5, 5, 5)
	p[1] = p[1][:3]
	expectKeeps(t, p, seen(program(1, 3)...), true)
	expectKeeps(t, p, seen(program(1, 4)...), false)
	expectKeeps(t, p[:2], seen(program(2, 1)...), false)
	expectKeeps(t, p, seen(program(2, 1)...), true)
}

// A node without a program must have no operations, and the others may have theirs.
func TestP130KeepsNodesWithoutAProgram(t *testing.T) {
	for n := 1; n <= 8; n++ {
		p := programs(slices.Repeat([]int{3}, n)...)
		var first []api.Deed
		for node := range n {
			first = append(first, operation(node, 0))
		}
		expectKeeps(t, p, seen(first...), true)
		for node := range 8 {
			expectKeeps(t, p, seen(operation(node, 0)), node < n)
			expectKeeps(t, p, append(seen(operation(node, 0)), seen(program(0, 1)...)...), 0 < node && node < n)
			if node >= n {
				expectKeeps(t, p, append(seen(first...), seen(operation(node, 0))...), false)
				expectKeeps(t, p, append(seen(operation(node, 1)), seen(first...)...), false)
			}
		}
	}
	expectKeeps(t, nil, nil, true)
	expectKeeps(t, nil, seen(operation(0, 0)), false)
	expectKeeps(t, [][]api.Deed{}, seen(operation(0, 0)), false)
}

// No error of a program is one of Keeps: programs may have more than MaxProg operations, and wrong ones.
func TestP130KeepsDoesNotCheckThePrograms(t *testing.T) {
	expectKeeps(t, programs(0, 200), seen(program(1, 200)...), true)
	expectKeeps(t, programs(0, 1000), seen(program(1, 200)...), true)
	for _, x := range wrong() {
		expectKeeps(t, [][]api.Deed{{x.o.Deed}, {operation(1, 0), x.o.Deed}}, seen(operation(1, 0)), true)
		expectKeeps(t, [][]api.Deed{{x.o.Deed}, {operation(1, 0), x.o.Deed}}, seen(operation(0, 0)), false)
	}
	// An operation in the program of another node is not one of its own node's.
	expectKeeps(t, [][]api.Deed{{operation(1, 0)}, nil}, seen(operation(1, 0)), false)
	expectKeeps(t, [][]api.Deed{{operation(1, 0)}, nil}, seen(operation(0, 0)), false)
	expectKeeps(t, [][]api.Deed{{operation(1, 0)}, {operation(1, 0)}}, seen(operation(1, 0)), true)
}

func TestP130TooManyPrograms(t *testing.T) {
	for _, n := range []int{9, 10, 16, 100} {
		for _, p := range [][][]api.Deed{make([][]api.Deed, n), programs(slices.Repeat([]int{3}, n)...)} {
			expectKeepsError(t, p, nil, api.ErrForm)
			expectKeepsError(t, p, seen(operation(0, 0)), api.ErrForm)
			expectKeepsError(t, p, seen(operation(0, 1)), api.ErrForm)
			expectKeepsError(t, p, seen(make([]api.Deed, 201)...), api.ErrLarge)
			for _, x := range wrong() {
				expectKeepsError(t, p, []api.Told{load(0, 0, 0), x.o}, x.e)
			}
			// The limit is that of the length, and not that of the capacity.
			expectKeeps(t, p[:8], nil, true)
		}
	}
}

// copied returns a copy of programs or logs that has also what is beyond the lengths.
func copied[T any](lists [][]T) [][]T {
	lists = slices.Clone(lists[:cap(lists)])
	for i, l := range lists {
		lists[i] = slices.Clone(l[:cap(l)])
	}
	return lists
}

// Programs and observations with room beyond their lengths, kept and not, and with each kind of error.
func TestP130WhatWasPassedInIsUnchanged(t *testing.T) {
	firsts := []api.Told{load(0, 0, 0), store(1, 0, 7)}
	for _, x := range wrong() {
		firsts = append(firsts, x.o)
	}
	for _, o := range firsts {
		for _, n := range []int{0, 1, 2, 8, 9} {
			p := programs(4, 4, 4, 4, 4, 4, 4, 4, 4, 4, 4)
			p[0] = p[0][:2]
			before := copied(p)
			for _, size := range []int{0, 1, 3, 200, 201} {
				l := slices.Insert(seen(program(2, 203)...), 0, o)
				was := slices.Clone(l[:cap(l)])
				order.Keeps(p[:n], l[:size])
				order.Legal(filled(), l[:size])
				if !slices.Equal(l[:cap(l)], was) {
					t.Errorf("observations are %+v, were %+v", l, was)
				}
			}
			if now := copied(p); !slices.EqualFunc(now, before, slices.Equal[[]api.Deed]) {
				t.Errorf("programs are %+v, were %+v", now, before)
			}
		}
	}
}
