package prog_test

import (
	"math"
	"slices"
	"testing"

	"ringdove/api"
	"ringdove/prog"
)

// noNodes returns picks that are no nodes of a configuration with the number of nodes.
func noNodes(nodes int) []int {
	return []int{math.MinInt, -nodes, -1, nodes, nodes + 1, 2 * nodes, 256, 1 << 32, math.MaxInt}
}

func expectMerge(t *testing.T, c api.Config, p [][]api.Deed, picks []int, l []api.Deed, at []int) {
	t.Helper()
	got, n, e := prog.Merge(c, p, picks)
	if !slices.Equal(got, l) || !slices.Equal(n, at) || e != api.OK {
		t.Errorf("Merge(%+v, %+v, %d) = %+v, %d, %d, want %+v, %d", c, p, picks, got, n, e, l, at)
	}
}

func expectSplit(t *testing.T, c api.Config, l []api.Deed, want [][]api.Deed) {
	t.Helper()
	if p, e := prog.Split(c, l); !equalPrograms(p, want) || e != api.OK {
		t.Errorf("Split(%+v, %+v) = %+v, %d, want %+v", c, l, p, e, want)
	}
}

func expectNoSplit(t *testing.T, c api.Config, l []api.Deed, want api.Errno) {
	t.Helper()
	if p, e := prog.Split(c, l); len(p) != 0 || e != want {
		t.Errorf("Split(%+v, %+v) = %+v, %d, want nothing, %d", c, l, p, e, want)
	}
}

// taken returns what Merge is to return. It takes operations off the front of each program, without an index.
func taken(p [][]api.Deed, picks []int) ([]api.Deed, []int) {
	rest := slices.Clone(p)
	at := make([]int, len(p))
	var l []api.Deed
	for _, pick := range picks {
		for node := range rest {
			if node == pick && len(rest[node]) > 0 {
				l = append(l, rest[node][0])
				rest[node] = rest[node][1:]
				at[node]++
			}
		}
	}
	return l, at
}

// expectMergeAndSplit expects what taken returns from Merge, and from Split the first operations of each program.
func expectMergeAndSplit(t *testing.T, p [][]api.Deed, picks []int) {
	t.Helper()
	c := with(len(p))
	l, at := taken(p, picks)
	expectMerge(t, c, p, picks, l, at)
	first := make([][]api.Deed, len(p))
	for node, n := range at {
		first[node] = p[node][:n]
	}
	expectSplit(t, c, l, first)
}

func TestP121Example(t *testing.T) {
	p := [][]api.Deed{
		{{Node: 0, Kind: api.KStore, Addr: 5, Value: 9}},
		{{Node: 1, Kind: api.KLoad, Addr: 63}},
	}
	l := []api.Deed{{Node: 1, Kind: api.KLoad, Addr: 63}, {Node: 0, Kind: api.KStore, Addr: 5, Value: 9}}
	expectMerge(t, with(2), p, []int{1, 1, 0}, l, []int{1, 1})
	expectSplit(t, with(2), l, p)
}

// The operations are written out here, because the other tests take them as the program does.
func TestP121MergeThreePrograms(t *testing.T) {
	p := programs(3, 0, 2)
	a, b := p[0], p[2]
	for _, x := range []struct {
		picks []int
		l     []api.Deed
		at    []int
	}{
		{nil, nil, []int{0, 0, 0}},
		{[]int{}, nil, []int{0, 0, 0}},
		{[]int{1}, nil, []int{0, 0, 0}},
		{[]int{2}, []api.Deed{b[0]}, []int{0, 0, 1}},
		{[]int{0, 0}, []api.Deed{a[0], a[1]}, []int{2, 0, 0}},
		{[]int{2, 0, 2, 0, 0}, []api.Deed{b[0], a[0], b[1], a[1], a[2]}, []int{3, 0, 2}},
		{[]int{0, 1, 2, 3, -1, 0}, []api.Deed{a[0], b[0], a[1]}, []int{2, 0, 1}},
		{[]int{0, 0, 0, 0, 2, 0}, []api.Deed{a[0], a[1], a[2], b[0]}, []int{3, 0, 1}},
		{[]int{7, 1, -9, 3}, nil, []int{0, 0, 0}},
	} {
		expectMerge(t, with(3), p, x.picks, x.l, x.at)
	}
}

// everyList returns all lists of up to n picks, of two nodes and of numbers that are not nodes.
func everyList(n int) [][]int {
	lists := [][]int{nil}
	for i := 0; len(lists[i]) < n; i++ {
		for _, pick := range []int{-1, 0, 1, 2} {
			lists = append(lists, append(slices.Clone(lists[i]), pick))
		}
	}
	return lists
}

func TestP121EveryShortListOfPicks(t *testing.T) {
	lists := everyList(6)
	if len(lists) != 1+4+16+64+256+1024+4096 {
		t.Fatalf("%d lists", len(lists))
	}
	for _, lengths := range [][]int{{0, 0}, {1, 0}, {1, 1}, {2, 3}, {3, 20}} {
		for _, picks := range lists {
			expectMergeAndSplit(t, programs(lengths...), picks)
		}
	}
}

// Picks of every node, in turn, one after the other, and mixed, for programs of each length.
func TestP121PicksOfEveryNode(t *testing.T) {
	for nodes := 2; nodes <= 8; nodes++ {
		for n := 0; n <= 20; n++ {
			lengths := make([]int, nodes)
			for node := range nodes {
				lengths[node] = (n + 11*node) % 21
			}
			for _, p := range [][][]api.Deed{programs(slices.Repeat([]int{n}, nodes)...), programs(lengths...)} {
				for _, pick := range []func(i int) int{
					func(i int) int { return i % nodes },
					func(i int) int { return nodes - 1 - i%nodes },
					func(i int) int { return i / 20 % nodes },
					func(i int) int { return i*i%(nodes+3) - 1 },
					func(i int) int { return n % nodes },
				} {
					var picks []int
					for i := range 200 {
						picks = append(picks, pick(i))
					}
					for _, k := range []int{0, 1, nodes, 20, 21, 199, 200} {
						expectMergeAndSplit(t, p, picks[:k])
					}
				}
			}
		}
	}
}

// A pick that is not a node is skipped, wherever it is.
func TestP121PicksThatAreNotNodes(t *testing.T) {
	for nodes := 2; nodes <= 8; nodes++ {
		p := programs(slices.Repeat([]int{3}, nodes)...)
		var order []int
		for node := range nodes {
			order = append(order, node, (node+1)%nodes)
		}
		l, at := taken(p, order)
		for _, x := range noNodes(nodes) {
			for i := range len(order) + 1 {
				expectMerge(t, with(nodes), p, slices.Insert(slices.Clone(order), i, x), l, at)
			}
			expectMerge(t, with(nodes), p, slices.Repeat([]int{x}, 200), nil, make([]int, nodes))
		}
	}
}

// A finished program does not end the others, and is not begun again.
func TestP121FinishedProgramsAreSkipped(t *testing.T) {
	for nodes := 2; nodes <= 8; nodes++ {
		for node := range nodes {
			for n := 0; n <= 20; n++ {
				p := programs(slices.Repeat([]int{2}, nodes)...)
				p[node] = program(node, n)
				other := (node + 1) % nodes
				picks := append(slices.Repeat([]int{node}, n+5), other, node, other, node)
				at := make([]int, nodes)
				at[node], at[other] = n, 2
				expectMerge(t, with(nodes), p, picks, slices.Concat(p[node], p[other]), at)
			}
		}
	}
}

func TestP121TooManyPicks(t *testing.T) {
	for nodes := 2; nodes <= 8; nodes++ {
		for _, p := range [][][]api.Deed{make([][]api.Deed, nodes), programs(slices.Repeat([]int{20}, nodes)...)} {
			for _, pick := range []int{0, 1, -1, nodes, math.MaxInt} {
				for _, n := range []int{201, 202, 256, 400, 1000} {
					expectNoMerge(t, with(nodes), p, slices.Repeat([]int{pick}, n), api.ErrLarge)
				}
			}
			// The limit is that of the length, and not that of the capacity.
			expectMergeAndSplit(t, p, make([]int, 300)[:200])
		}
	}
}

// long returns n operations of the nodes in turn.
func long(nodes, n int) []api.Deed {
	var l []api.Deed
	for i := range n {
		l = append(l, operation(i%nodes, i))
	}
	return l
}

// Split has no limit for the operations of one node but that of all operations.
func TestP121SplitEveryNumberOfOperations(t *testing.T) {
	for nodes := 2; nodes <= 8; nodes++ {
		for n := range 201 {
			want := make([][]api.Deed, nodes)
			for i, d := range long(nodes, n) {
				want[i%nodes] = append(want[i%nodes], d)
			}
			expectSplit(t, with(nodes), long(nodes, n), want)
		}
		for node := range nodes {
			for _, n := range []int{1, 20, 21, 199, 200} {
				want := make([][]api.Deed, nodes)
				want[node] = program(node, n)
				expectSplit(t, with(nodes), program(node, n), want)
			}
		}
	}
}

func TestP121SplitNoOperations(t *testing.T) {
	for nodes := 2; nodes <= 8; nodes++ {
		for _, l := range [][]api.Deed{nil, {}, make([]api.Deed, 0, 300)} {
			expectSplit(t, with(nodes), l, make([][]api.Deed, nodes))
		}
	}
}

// Equal operations are not one operation.
func TestP121SplitEqualOperations(t *testing.T) {
	a, b := operation(0, 1), operation(2, 1)
	expectSplit(t, with(3), []api.Deed{b, a, a, b, a}, [][]api.Deed{{a, a, a}, nil, {b, b}})
}

func TestP121SplitCapacityBeyondTheLimit(t *testing.T) {
	l := append(program(1, 200), make([]api.Deed, 100)...)[:200]
	expectSplit(t, with(2), l, [][]api.Deed{nil, program(1, 200)})
}

// The error of the configuration comes first, and then that of the number of operations.
func TestP121SplitErrorsBeforeThoseOfOperations(t *testing.T) {
	for _, c := range badConfigs {
		for _, l := range [][]api.Deed{nil, long(2, 3), long(2, 201), make([]api.Deed, 3), make([]api.Deed, 201)} {
			expectNoSplit(t, c, l, api.ErrRange)
		}
	}
	for nodes := 2; nodes <= 8; nodes++ {
		for _, n := range []int{201, 202, 256, 400, 1000} {
			expectNoSplit(t, with(nodes), long(nodes, n), api.ErrLarge)
			expectNoSplit(t, with(nodes), make([]api.Deed, n), api.ErrLarge)
		}
		for _, x := range wrongIn(nodes) {
			for _, i := range []int{0, 100, 199, 200} {
				l := long(nodes, 201)
				l[i] = x.d
				expectNoSplit(t, with(nodes), l, api.ErrLarge)
			}
		}
	}
}

// wrongIn returns operations that Split has an error for. That of a node which is not in the configuration comes last.
func wrongIn(nodes int) []failure {
	all := wrong(1)
	for node := nodes; node < 8; node++ {
		all = append(all,
			failure{operation(node, 0), api.ErrRange},
			failure{operation(node, 1), api.ErrRange},
			failure{api.Deed{Node: node}, api.ErrArg},
			failure{api.Deed{Node: node, Kind: api.KPut, Value: 1}, api.ErrForm},
		)
	}
	return all
}

func TestP121SplitOneWrongOperation(t *testing.T) {
	for nodes := 2; nodes <= 8; nodes++ {
		for _, x := range wrongIn(nodes) {
			for _, n := range []int{1, 2, 5, 200} {
				for i := range n {
					l := long(nodes, n)
					l[i] = x.d
					expectNoSplit(t, with(nodes), l, x.e)
				}
			}
		}
	}
}

func TestP121SplitTheFirstWrongOperationCounts(t *testing.T) {
	for nodes := 2; nodes <= 8; nodes++ {
		for _, x := range wrongIn(nodes) {
			for _, y := range wrongIn(nodes) {
				for _, at := range [][2]int{{0, 1}, {0, 4}, {2, 3}, {1, 4}} {
					l := long(nodes, 5)
					l[at[0]], l[at[1]] = x.d, y.d
					expectNoSplit(t, with(nodes), l, x.e)
				}
			}
		}
	}
}

// overwrite changes all operations, also those beyond the length.
func overwrite(l []api.Deed) {
	l = l[:cap(l)]
	for i := range l {
		l[i] = api.Deed{Node: 77, Kind: 78, Addr: 79, Value: 80}
	}
}

func TestP121WhatWasPassedInIsUnchanged(t *testing.T) {
	for _, p := range somePrograms() {
		before := copyPrograms(p)
		for _, n := range []int{0, 1, 5, 200, 201} {
			picks := make([]int, 205)
			for i := range picks {
				picks[i] = i%5 - 1
			}
			was := slices.Clone(picks)
			l, at, _ := prog.Merge(with(3), p, picks[:n])
			overwrite(l)
			clear(at[:cap(at)])
			if !slices.Equal(picks, was) {
				t.Errorf("picks are %d, were %d", picks, was)
			}
		}
		if now := copyPrograms(p); !equalPrograms(now, before) {
			t.Errorf("programs are %+v, were %+v", now, before)
		}
	}
	for _, n := range []int{0, 1, 5, 200, 201} {
		for _, node := range []int{0, 1, -1, 7} {
			l := long(3, 205)
			l[3].Node = node
			was := slices.Clone(l)
			p, _ := prog.Split(with(3), l[:n])
			for _, x := range p {
				overwrite(x)
			}
			clear(p[:cap(p)])
			if !slices.Equal(l, was) {
				t.Errorf("operations are %+v, were %+v", l, was)
			}
		}
	}
}

// A later change of what was passed in, of an earlier result, or of another part of the result is not visible in a result.
func TestP121ResultsShareNoMemory(t *testing.T) {
	p := programs(20, 20, 20)
	picks := []int{0, 0, 0, 2, 1, 1}
	want, counts := taken(programs(20, 20, 20), picks)
	l, at, _ := prog.Merge(with(3), p, picks)
	again, n, _ := prog.Merge(with(3), p, picks)
	overwrite(again)
	clear(n[:cap(n)])
	for _, x := range p {
		overwrite(x)
	}
	clear(p)
	clear(picks)
	if !slices.Equal(l, want) || !slices.Equal(at, counts) {
		t.Errorf("Merge: %+v, %d, want %+v, %d", l, at, want, counts)
	}
	for node := range 3 {
		first := [][]api.Deed{program(0, 3), program(1, 2), program(2, 1)}
		s, _ := prog.Split(with(3), l)
		other, _ := prog.Split(with(3), l)
		overwrite(l)
		for _, x := range other {
			overwrite(x)
		}
		clear(other)
		overwrite(s[node])
		overwrite(first[node])
		if !equalPrograms(s, first) {
			t.Errorf("Split: %+v, want %+v", s, first)
		}
		copy(l, want)
	}
}
