package prog_test

import (
	"math"
	"slices"
	"testing"

	"ringdove/api"
	"ringdove/prog"
)

var badConfigs = []api.Config{
	{},
	{Nodes: 1, Sets: 1, Ways: 1, Banks: 1},
	{Nodes: 9, Sets: 1, Ways: 1, Banks: 1},
	{Nodes: -3, Sets: 1, Ways: 1, Banks: 1},
	{Nodes: math.MaxInt, Sets: 1, Ways: 1, Banks: 1},
	{Nodes: math.MinInt, Sets: 1, Ways: 1, Banks: 1},
	{Nodes: 3, Sets: 3, Ways: 1, Banks: 1},
	{Nodes: 3, Sets: 1, Ways: 5, Banks: 1},
	{Nodes: 3, Sets: 1, Ways: 1, Banks: 0},
}

// with returns a configuration with the number of nodes. The other numbers differ, because programs do not depend on them.
func with(nodes int) api.Config {
	return api.Config{Nodes: nodes, Sets: 1 << (nodes % 3), Ways: 1 + nodes%4, Banks: 1 + (nodes+1)%4}
}

// operation returns the operation with index i of a node. The first 200 of them all differ.
func operation(node, i int) api.Deed {
	d := api.Deed{Node: node, Kind: api.KLoad + api.Kind((i+i/64)%4), Addr: i % 64}
	if d.Kind == api.KStore || d.Kind == api.KSwap {
		d.Value = uint64(i)<<40 + uint64(node)
	}
	return d
}

// program returns the first n operations of a node.
func program(node, n int) []api.Deed {
	var l []api.Deed
	for i := range n {
		l = append(l, operation(node, i))
	}
	return l
}

// programs returns a program of each length, for node 0 and the nodes after it.
func programs(lengths ...int) [][]api.Deed {
	var p [][]api.Deed
	for node, n := range lengths {
		p = append(p, program(node, n))
	}
	return p
}

// wrong returns operations with an error in the program of the node, alone or together with later errors.
func wrong(node int) []failure {
	other := (node + 1) % 8
	return []failure{
		{api.Deed{Node: -1, Kind: api.KLoad}, api.ErrRange},
		{api.Deed{Node: 8, Kind: api.KStore, Value: 1}, api.ErrRange},
		{api.Deed{Node: math.MinInt, Kind: 9, Addr: 64}, api.ErrRange},
		{api.Deed{Node: math.MaxInt, Kind: api.KPut, Value: 1}, api.ErrRange},
		{api.Deed{Node: node}, api.ErrArg},
		{api.Deed{Node: node, Kind: 5, Addr: -1}, api.ErrArg},
		{api.Deed{Node: other, Kind: -1, Addr: 64}, api.ErrArg},
		{api.Deed{Node: node, Kind: api.KSwap, Addr: 64}, api.ErrRange},
		{api.Deed{Node: node, Kind: api.KPut, Addr: -1, Value: 1}, api.ErrRange},
		{api.Deed{Node: other, Kind: api.KLoad, Addr: math.MaxInt}, api.ErrRange},
		{api.Deed{Node: node, Kind: api.KLoad, Value: 1}, api.ErrForm},
		{api.Deed{Node: node, Kind: api.KPut, Addr: 63, Value: math.MaxUint64}, api.ErrForm},
	}
}

type failure struct {
	d api.Deed
	e api.Errno
}

// elsewhere returns right operations of every node but this one, also of those that are in no small configuration.
func elsewhere(node int) []api.Deed {
	var l []api.Deed
	for other := range 8 {
		if other != node {
			l = append(l, operation(other, 1), operation(other, 4))
		}
	}
	return l
}

// expectCheck expects the error from Check, and from Merge with nothing beside it. The error of too many picks comes later.
func expectCheck(t *testing.T, c api.Config, p [][]api.Deed, want api.Errno) {
	t.Helper()
	if e := prog.Check(c, p); e != want {
		t.Errorf("Check(%+v, %+v) = %d, want %d", c, p, e, want)
	}
	if want == api.OK {
		return
	}
	for _, picks := range [][]int{nil, {0, 1, 0}, {-1, 8}, make([]int, 200), make([]int, 201)} {
		expectNoMerge(t, c, p, picks, want)
	}
}

func expectNoMerge(t *testing.T, c api.Config, p [][]api.Deed, picks []int, want api.Errno) {
	t.Helper()
	if l, at, e := prog.Merge(c, p, picks); len(l)+len(at) != 0 || e != want {
		t.Errorf("Merge(%+v, %+v, %d) = %+v, %d, %d, want nothing, %d", c, p, picks, l, at, e, want)
	}
}

func TestP120ProgramsOfEachLength(t *testing.T) {
	for nodes := 2; nodes <= 8; nodes++ {
		for n := 0; n <= 20; n++ {
			equal, mixed, alone := make([]int, nodes), make([]int, nodes), make([]int, nodes)
			for node := range nodes {
				equal[node], mixed[node] = n, (n+7*node)%21
			}
			alone[n%nodes] = n
			for _, lengths := range [][]int{equal, mixed, alone} {
				expectCheck(t, with(nodes), programs(lengths...), api.OK)
			}
		}
	}
}

func TestP120EachOperation(t *testing.T) {
	for node := range 3 {
		for a := range 64 {
			for _, d := range []api.Deed{
				{Node: node, Kind: api.KLoad, Addr: a},
				{Node: node, Kind: api.KStore, Addr: a},
				{Node: node, Kind: api.KStore, Addr: a, Value: math.MaxUint64},
				{Node: node, Kind: api.KSwap, Addr: a},
				{Node: node, Kind: api.KSwap, Addr: a, Value: 1 << 63},
				{Node: node, Kind: api.KPut, Addr: a},
			} {
				p := make([][]api.Deed, 3)
				p[node] = slices.Repeat([]api.Deed{d}, 20)
				expectCheck(t, with(3), p, api.OK)
			}
		}
	}
}

// The limits are those of the lengths, and not those of the capacities.
func TestP120CapacityBeyondTheLimits(t *testing.T) {
	bad := api.Deed{Node: -1}
	p := programs(20, 0, 20, 5)
	p[0] = append(p[0], bad)[:20]
	p[1] = make([]api.Deed, 0, 40)
	expectCheck(t, with(3), p[:3], api.OK)
	expectCheck(t, with(2), p[:2], api.OK)
}

func TestP120WrongConfiguration(t *testing.T) {
	for _, c := range badConfigs {
		for _, p := range [][][]api.Deed{
			nil,
			programs(0, 0, 0),
			programs(1, 2, 3),
			make([][]api.Deed, 9),
			programs(21, 21, 21),
			{{{Kind: 9}}, {{Node: 1}}, nil},
			{{operation(1, 0)}, {operation(0, 0)}, nil},
		} {
			expectCheck(t, c, p, api.ErrRange)
		}
	}
}

func TestP120WrongNumberOfPrograms(t *testing.T) {
	for nodes := 2; nodes <= 8; nodes++ {
		for n := range 12 {
			if n == nodes {
				continue
			}
			expectCheck(t, with(nodes), make([][]api.Deed, n), api.ErrForm)
			expectCheck(t, with(nodes), programs(slices.Repeat([]int{3}, n)...), api.ErrForm)
			// The errors of the programs come later.
			expectCheck(t, with(nodes), programs(slices.Repeat([]int{21}, n)...), api.ErrForm)
			expectCheck(t, with(nodes), slices.Repeat([][]api.Deed{{{}}}, n), api.ErrForm)
		}
		expectCheck(t, with(nodes), nil, api.ErrForm)
		expectCheck(t, with(nodes), make([][]api.Deed, 0, nodes), api.ErrForm)
	}
}

func TestP120TooLongPrograms(t *testing.T) {
	for nodes := 2; nodes <= 8; nodes++ {
		for node := range nodes {
			for _, n := range []int{21, 22, 40, 200, 201, 276} {
				lengths := slices.Repeat([]int{20}, nodes)
				lengths[node] = n
				expectCheck(t, with(nodes), programs(lengths...), api.ErrLarge)
				// Whatever is wrong in the program or in a later one comes after its length.
				p := programs(lengths...)
				for _, l := range p[node:] {
					l[0].Kind = 0
				}
				expectCheck(t, with(nodes), p, api.ErrLarge)
				p[node] = make([]api.Deed, n)
				expectCheck(t, with(nodes), p, api.ErrLarge)
				p[node] = slices.Repeat([]api.Deed{operation((node+1)%nodes, 0)}, n)
				expectCheck(t, with(nodes), p, api.ErrLarge)
			}
		}
	}
}

// A program that is too long comes after a wrong operation of an earlier program.
func TestP120WrongOperationBeforeATooLongProgram(t *testing.T) {
	for nodes := 2; nodes <= 8; nodes++ {
		for node := range nodes - 1 {
			for later := node + 1; later < nodes; later++ {
				for _, x := range append(wrong(node), failure{operation(later, 0), api.ErrForm}) {
					for _, i := range []int{0, 10, 19} {
						p := programs(slices.Repeat([]int{20}, nodes)...)
						p[node][i] = x.d
						p[later] = program(later, 21)
						expectCheck(t, with(nodes), p, x.e)
					}
				}
			}
		}
	}
}

func TestP120OneWrongOperation(t *testing.T) {
	for nodes := 2; nodes <= 8; nodes++ {
		for node := range nodes {
			for _, x := range wrong(node) {
				expectWrong(t, nodes, node, x)
			}
			for _, d := range elsewhere(node) {
				expectWrong(t, nodes, node, failure{d, api.ErrForm})
			}
		}
	}
}

// expectWrong expects the error of the operation, which is the only wrong one, wherever it is in the node's program.
func expectWrong(t *testing.T, nodes, node int, x failure) {
	t.Helper()
	for _, n := range []int{1, 2, 20} {
		for i := range n {
			p := programs(slices.Repeat([]int{n}, nodes)...)
			p[node][i] = x.d
			if e := prog.Check(with(nodes), p); e != x.e {
				t.Errorf("Check(%d nodes, %+v at %d of %d) = %d, want %d", nodes, x.d, i, n, e, x.e)
			}
			expectNoMerge(t, with(nodes), p, []int{0, 1}, x.e)
		}
	}
}

// Of two wrong operations the first one counts: in the earlier program, or earlier in the same program.
func TestP120TheFirstWrongOperationCounts(t *testing.T) {
	type spot struct{ node, i int }
	spots := []spot{{0, 0}, {0, 1}, {0, 4}, {1, 0}, {1, 3}, {2, 0}, {2, 4}}
	for k, a := range spots {
		for _, b := range spots[k+1:] {
			for _, x := range append(wrong(a.node), failure{operation((a.node+1)%3, 0), api.ErrForm}) {
				for _, y := range append(wrong(b.node), failure{operation((b.node+2)%3, 0), api.ErrForm}) {
					p := programs(5, 5, 5)
					p[a.node][a.i], p[b.node][b.i] = x.d, y.d
					expectCheck(t, with(3), p, x.e)
				}
			}
		}
	}
}

func expectNext(t *testing.T, p [][]api.Deed, at []int, node int, d api.Deed, is bool) {
	t.Helper()
	if got, has, e := prog.Next(p, at, node); got != d || has != is || e != api.OK {
		t.Errorf("Next(%+v, %d, %d) = %+v, %v, %d, want %+v, %v", p, at, node, got, has, e, d, is)
	}
}

func expectNoNext(t *testing.T, p [][]api.Deed, at []int, node int) {
	t.Helper()
	if d, is, e := prog.Next(p, at, node); d != (api.Deed{}) || is || e != api.ErrRange {
		t.Errorf("Next(%+v, %d, %d) = %+v, %v, %d, want ErrRange", p, at, node, d, is, e)
	}
}

// The other elements of at are of no account, whatever they are.
func TestP120NextAtEachIndex(t *testing.T) {
	for nodes := 2; nodes <= 8; nodes++ {
		lengths := []int{20, 0, 7, 1, 19, 2, 13, 20}[:nodes]
		p := programs(lengths...)
		for node, n := range lengths {
			for _, others := range []int{0, 1, 20, 99, -1, math.MinInt, math.MaxInt} {
				at := slices.Repeat([]int{others}, nodes)
				for i := range n {
					at[node] = i
					expectNext(t, p, at, node, operation(node, i), true)
				}
				for _, i := range []int{n, n + 1, n + 20, 1 << 32, math.MaxInt} {
					at[node] = i
					expectNext(t, p, at, node, api.Deed{}, false)
				}
			}
		}
	}
}

// What follows the length of a program, of the programs or of at is not there.
func TestP120NextCapacityBeyondTheLength(t *testing.T) {
	p := programs(5, 5, 5)
	p[1] = p[1][:3]
	expectNext(t, p, []int{0, 2, 0}, 1, operation(1, 2), true)
	expectNext(t, p, []int{0, 3, 0}, 1, api.Deed{}, false)
	expectNoNext(t, p[:2], []int{0, 0, 0}, 2)
	expectNoNext(t, p[:2], []int{0, 0, 0}[:2], 2)
	expectNoNext(t, p, []int{0, 0, 0}[:2], 1)
	expectNext(t, p[:2], []int{0, 1, 0}[:2], 1, operation(1, 1), true)
}

// Next has no configuration, so any number of programs, and any operations, are right for it.
func TestP120NextDoesNotCheckThePrograms(t *testing.T) {
	expectNext(t, programs(4), []int{3}, 0, operation(0, 3), true)
	p := programs(slices.Repeat([]int{30}, 100)...)
	at := slices.Repeat([]int{29}, 100)
	for node := range 100 {
		expectNext(t, p, at, node, operation(node, 29), true)
	}
	d := api.Deed{Node: -7, Kind: 99, Addr: math.MinInt, Value: 3}
	expectNext(t, [][]api.Deed{{d}, {{Kind: -1}, d}}, []int{0, 1}, 0, d, true)
	expectNext(t, [][]api.Deed{{d}, {{Kind: -1}, d}}, []int{0, 1}, 1, d, true)
}

func TestP120NextErrors(t *testing.T) {
	for n := range 10 {
		p := programs(slices.Repeat([]int{4}, n)...)
		for size := range 12 {
			at := slices.Repeat([]int{1}, size)
			bad := slices.Repeat([]int{-1}, size)
			for _, node := range []int{math.MinInt, -n, -1, n, n + 1, 2 * n, 1 << 32, math.MaxInt} {
				if node < 0 || node >= n {
					expectNoNext(t, p, at, node)
					expectNoNext(t, p, bad, node)
				}
			}
			for node := range n {
				expectNoNext(t, p, bad, node)
				if size != n {
					expectNoNext(t, p, at, node)
				}
			}
		}
		for node := range n {
			for _, i := range []int{-1, -2, -4, math.MinInt} {
				at := make([]int, n)
				at[node] = i
				expectNoNext(t, p, at, node)
				// An empty program has no operation with such an index either, but the index is an error.
				p[node] = nil
				expectNoNext(t, p, at, node)
				p[node] = program(node, 4)
			}
		}
	}
	expectNoNext(t, nil, nil, 0)
	expectNoNext(t, [][]api.Deed{}, []int{0}, 0)
}

// copyPrograms returns a copy that has also what is beyond the lengths.
func copyPrograms(p [][]api.Deed) [][]api.Deed {
	p = slices.Clone(p[:cap(p)])
	for i, l := range p {
		p[i] = slices.Clone(l[:cap(l)])
	}
	return p
}

func equalPrograms(p, q [][]api.Deed) bool {
	return slices.EqualFunc(p, q, slices.Equal[[]api.Deed])
}

// somePrograms returns programs with room beyond their lengths, without and with an error in a configuration of three nodes.
func somePrograms() [][][]api.Deed {
	all := [][][]api.Deed{
		programs(20, 3, 7),
		programs(0, 0, 0),
		programs(21, 1, 1),
		programs(1, 2),
		programs(2, 2, 2, 2),
		{{{Kind: 9}}, nil, nil},
		{{operation(1, 0)}, {operation(0, 0)}, nil},
	}
	for i, p := range all {
		for k, l := range p {
			p[k] = append(slices.Clone(l), operation(k, 98), operation(k, 99))[:len(l)]
		}
		all[i] = append(p, program(7, 1), program(6, 2))[:len(p)]
	}
	return all
}

func TestP120WhatWasPassedInIsUnchanged(t *testing.T) {
	for _, p := range somePrograms() {
		before := copyPrograms(p)
		prog.Check(with(3), p)
		prog.Check(api.Config{}, p)
		for _, at := range [][]int{{0, 1, 2, 55, 56}, {3, 3, -1, 55, 56}, {99, 0, math.MinInt, 55, 56}} {
			was := slices.Clone(at)
			for node := -1; node <= 4; node++ {
				for size := range 5 {
					prog.Next(p, at[:size], node)
				}
			}
			if !slices.Equal(at, was) {
				t.Errorf("at is %d, was %d", at, was)
			}
		}
		if now := copyPrograms(p); !equalPrograms(now, before) {
			t.Errorf("programs are %+v, were %+v", now, before)
		}
	}
}
