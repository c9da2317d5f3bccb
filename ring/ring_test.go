package ring_test

import (
	"math"
	"slices"
	"testing"

	"ringdove/api"
	"ringdove/ring"
)

var badSlots = []int{math.MinInt, math.MinInt + 1, -8, -1, 0, 9, 10, 16, 256, 1<<32 + 1, math.MaxInt}

var badWaits = []int{math.MinInt, -9, -1, 10, 11, 255, 1<<32 + 1, math.MaxInt}

var badConfigs = []api.Config{
	{},
	{Nodes: 1, Sets: 1, Ways: 1, Banks: 1},
	{Nodes: 9, Sets: 1, Ways: 1, Banks: 1},
	{Nodes: -3, Sets: 1, Ways: 1, Banks: 1},
	{Nodes: math.MaxInt, Sets: 1, Ways: 1, Banks: 1},
	{Nodes: math.MinInt, Sets: 1, Ways: 1, Banks: 1},
	{Nodes: 3, Sets: 3, Ways: 1, Banks: 1},
	{Nodes: 3, Sets: 1, Ways: 5, Banks: 1},
	{Nodes: 3, Sets: 1, Ways: 1, Banks: 0},
}

// with returns a configuration with the number of nodes. The other numbers differ, because a ring does not depend on them.
func with(nodes int) api.Config {
	return api.Config{Nodes: nodes, Sets: 1 << (nodes % 3), Ways: 1 + nodes%4, Banks: 1 + (nodes+1)%4}
}

// badNodes returns numbers that are no nodes of a configuration with the number of nodes.
func badNodes(nodes int) []int {
	return []int{math.MinInt, -nodes, -1, nodes, nodes + 1, 2 * nodes, 16, 256, 1 << 32, math.MaxInt}
}

// each visits every number of nodes with every number of slots.
func each(f func(nodes, slots int)) {
	for nodes := 2; nodes <= 8; nodes++ {
		for slots := 1; slots <= 8; slots++ {
			f(nodes, slots)
		}
	}
}

// after counts round from 0 to n - 1, so that what is wanted does not rest on the arithmetic under test.
func after(k, n int) int {
	if k+1 == n {
		return 0
	}
	return k + 1
}

// empty returns the ring that New is to return.
func empty(nodes, slots int) api.Ring {
	var r api.Ring
	at := 0
	for range slots {
		r = append(r, api.Slot{At: at})
		at = after(at, nodes)
	}
	return r
}

// expectCheck expects the error from Check, and from Put and Step with zero values beside it.
func expectCheck(t *testing.T, c api.Config, r api.Ring, want api.Errno) {
	t.Helper()
	if e := ring.Check(c, r); e != want {
		t.Errorf("Check(%+v, %+v) = %d, want %d", c, r, e, want)
	}
	if want == api.OK {
		return
	}
	// The errors of node and wait come after those of Check.
	for _, x := range [][2]int{{0, 0}, {1, 9}, {-1, 0}, {math.MaxInt, 0}, {0, -1}, {1, 10}} {
		expectNoPut(t, c, r, x[0], x[1], want)
	}
	if y, back, e := ring.Step(c, r); len(y)+len(back) != 0 || e != want {
		t.Errorf("Step(%+v, %+v) = %+v, %v, %d, want zeros, %d", c, r, y, back, e, want)
	}
}

func expectNoPut(t *testing.T, c api.Config, r api.Ring, node, wait int, want api.Errno) {
	t.Helper()
	if y, is, e := ring.Put(c, r, node, wait); len(y) != 0 || is || e != want {
		t.Errorf("Put(%+v, %+v, %d, %d) = %+v, %v, %d, want zeros, %d", c, r, node, wait, y, is, e, want)
	}
}

func TestP110New(t *testing.T) {
	each(func(nodes, slots int) {
		c := with(nodes)
		r, e := ring.New(c, slots)
		if !slices.Equal(r, empty(nodes, slots)) || e != api.OK {
			t.Errorf("New(%+v, %d) = %+v, %d", c, slots, r, e)
		}
		expectCheck(t, c, r, api.OK)
	})
}

// The nodes are written out here, because the other tests count them.
func TestP110NewExamples(t *testing.T) {
	for _, x := range []struct {
		nodes int
		at    []int
	}{
		{2, []int{0}},
		{8, []int{0}},
		{2, []int{0, 1}},
		{2, []int{0, 1, 0, 1, 0, 1, 0, 1}},
		{3, []int{0, 1, 2, 0, 1}},
		{5, []int{0, 1, 2, 3, 4, 0, 1, 2}},
		{7, []int{0, 1, 2, 3, 4, 5, 6, 0}},
		{8, []int{0, 1, 2, 3, 4, 5, 6, 7}},
	} {
		var want api.Ring
		for _, at := range x.at {
			want = append(want, api.Slot{At: at, Full: false, By: 0, Wait: 0})
		}
		if r, e := ring.New(with(x.nodes), len(x.at)); !slices.Equal(r, want) || e != api.OK {
			t.Errorf("New(%d nodes, %d) = %+v, %d, want %+v", x.nodes, len(x.at), r, e, want)
		}
	}
}

func TestP110NewErrors(t *testing.T) {
	expect := func(c api.Config, slots int) {
		t.Helper()
		if r, e := ring.New(c, slots); len(r) != 0 || e != api.ErrRange {
			t.Errorf("New(%+v, %d) = %+v, %d, want ErrRange", c, slots, r, e)
		}
	}
	for nodes := 2; nodes <= 8; nodes++ {
		for _, slots := range badSlots {
			expect(with(nodes), slots)
		}
	}
	for _, c := range badConfigs {
		for _, slots := range append([]int{1, 3, 8}, badSlots...) {
			expect(c, slots)
		}
	}
}

func TestP110RingsWithoutAnError(t *testing.T) {
	for i, r := range []api.Ring{
		{{}},
		{{At: 2}},
		{{At: 1}, {At: 1}, {At: 1}, {At: 1}, {At: 1}, {At: 1}, {At: 1}, {At: 1}},
		{{At: 2}, {At: 1}, {}},
		{{Full: true}},
		{{Full: true, Wait: 9}},
		{{At: 1, Full: true, By: 2, Wait: 9}},
		{{At: 2, Full: true, By: 2}, {At: 2, Full: true, By: 1}, {At: 2, Full: true, By: 0, Wait: 1}},
		// An empty slot has a By of 0, but was not filled by node 0.
		{{}, {Full: true}},
		{{Full: true}, {}},
		{{}, {}, {At: 1, Full: true}, {}, {}, {At: 1}, {At: 2}, {}},
	} {
		if e := ring.Check(with(3), r); e != api.OK {
			t.Errorf("%d: Check(%+v) = %d", i, r, e)
		}
	}
}

func TestP110NumberOfSlots(t *testing.T) {
	for nodes := 2; nodes <= 8; nodes++ {
		for _, r := range []api.Ring{nil, {}, make(api.Ring, 0, 8), make(api.Ring, 9), make(api.Ring, 10), make(api.Ring, 1000)} {
			expectCheck(t, with(nodes), r, api.ErrRange)
		}
		// The limit is that of the length, and not that of the capacity.
		expectCheck(t, with(nodes), make(api.Ring, 8, 20), api.OK)
	}
}

// wrong has slots that have an error on their own, in configurations of 2 to 5 nodes.
var wrong = []struct {
	s api.Slot
	e api.Errno
}{
	{api.Slot{At: -1}, api.ErrRange},
	{api.Slot{At: 5}, api.ErrRange},
	{api.Slot{At: math.MaxInt, Full: true}, api.ErrRange},
	{api.Slot{By: -1, Full: true}, api.ErrRange},
	{api.Slot{By: 5, Full: true}, api.ErrRange},
	{api.Slot{By: math.MinInt, Full: true}, api.ErrRange},
	{api.Slot{Wait: -1, Full: true}, api.ErrRange},
	{api.Slot{Wait: 10, Full: true}, api.ErrRange},
	{api.Slot{By: 1}, api.ErrForm},
	{api.Slot{Wait: 1}, api.ErrForm},
	{api.Slot{Wait: 9}, api.ErrForm},
	{api.Slot{At: 1, By: 1, Wait: 1}, api.ErrForm},
	// A number that is out of range comes before the form of an empty slot.
	{api.Slot{By: -1}, api.ErrRange},
	{api.Slot{By: 5}, api.ErrRange},
	{api.Slot{Wait: -1}, api.ErrRange},
	{api.Slot{Wait: 10}, api.ErrRange},
	{api.Slot{At: 5, By: 1, Wait: 1}, api.ErrRange},
	{api.Slot{By: 1, Wait: 10}, api.ErrRange},
	{api.Slot{By: 5, Wait: 1}, api.ErrRange},
}

func TestP110OneWrongSlot(t *testing.T) {
	each(func(nodes, slots int) {
		for k := range slots {
			for _, x := range wrong {
				if nodes > 5 {
					continue
				}
				r := empty(nodes, slots)
				r[k] = x.s
				expectCheck(t, with(nodes), r, x.e)
			}
			for _, n := range badNodes(nodes) {
				for _, s := range []api.Slot{{At: n}, {At: n, Full: true}, {By: n}, {By: n, Full: true}} {
					r := empty(nodes, slots)
					r[k] = s
					expectCheck(t, with(nodes), r, api.ErrRange)
				}
			}
			for _, wait := range badWaits {
				for _, full := range []bool{false, true} {
					r := empty(nodes, slots)
					r[k].Full, r[k].Wait = full, wait
					expectCheck(t, with(nodes), r, api.ErrRange)
				}
			}
		}
	})
}

func TestP110TheFirstWrongSlotCounts(t *testing.T) {
	c := with(4)
	for _, at := range [][2]int{{0, 1}, {0, 7}, {2, 5}, {6, 7}} {
		for _, x := range wrong {
			for _, y := range wrong {
				r := empty(4, 8)
				r[at[0]], r[at[1]] = x.s, y.s
				expectCheck(t, c, r, x.e)
			}
		}
	}
}

func TestP110ANodeFillsTwoSlots(t *testing.T) {
	each(func(nodes, slots int) {
		c := with(nodes)
		for j := range slots {
			for i := range j {
				for node := range nodes {
					r := empty(nodes, slots)
					r[i] = api.Slot{At: node, Full: true, By: node, Wait: 9}
					r[j] = api.Slot{At: after(node, nodes), Full: true, By: node}
					expectCheck(t, c, r, api.ErrThere)
					r[j].By = after(node, nodes)
					expectCheck(t, c, r, api.OK)
				}
			}
		}
	})
}

// A slot of a node that has filled another one has its other errors first, and the first slot with an error counts.
func TestP110TwoSlotsOfANodeAndOtherErrors(t *testing.T) {
	c := with(4)
	first, second := api.Slot{At: 1, Full: true, By: 2}, api.Slot{At: 3, Full: true, By: 2}
	for _, s := range []api.Slot{
		{At: -1, Full: true, By: 2}, {At: 4, Full: true, By: 2}, {Full: true, By: 2, Wait: -1}, {Full: true, By: 2, Wait: 10},
	} {
		expectCheck(t, c, api.Ring{first, s}, api.ErrRange)
	}
	expectCheck(t, c, api.Ring{first, {By: 2}}, api.ErrForm)
	expectCheck(t, c, api.Ring{{By: 2}, first}, api.ErrForm)
	for _, x := range wrong {
		expectCheck(t, c, api.Ring{first, second, x.s}, api.ErrThere)
		expectCheck(t, c, api.Ring{first, x.s, second}, x.e)
		expectCheck(t, c, api.Ring{x.s, first, second}, x.e)
	}
}

// The configuration and the number of slots come before the slots.
func TestP110OrderOfErrors(t *testing.T) {
	twice := api.Ring{{Full: true, By: 1}, {Full: true, By: 1}}
	for _, c := range badConfigs {
		for _, r := range []api.Ring{nil, {{}}, {{By: 1}}, {{Wait: 1}}, twice, make(api.Ring, 9)} {
			expectCheck(t, c, r, api.ErrRange)
		}
	}
	for _, s := range []api.Slot{{By: 1}, {Wait: 1}, {Full: true}} {
		expectCheck(t, with(3), slices.Repeat(api.Ring{s}, 9), api.ErrRange)
	}
}

// firstError states the errors of a ring with two slots, in their order.
func firstError(nodes int, r api.Ring) api.Errno {
	for k, s := range r {
		nodesAreRight := s.At >= 0 && s.At <= nodes-1 && s.By >= 0 && s.By <= nodes-1
		if !nodesAreRight || s.Wait < 0 || s.Wait > 9 {
			return api.ErrRange
		}
		if !s.Full && s != (api.Slot{At: s.At}) {
			return api.ErrForm
		}
		if k == 1 && s.Full && r[0].Full && r[0].By == s.By {
			return api.ErrThere
		}
	}
	return api.OK
}

// eachPair visits all rings of two slots whose numbers are near their ranges.
func eachPair(nodes int, f func(r api.Ring)) {
	var all []api.Slot
	for at := -1; at <= nodes; at++ {
		for by := -1; by <= nodes; by++ {
			for _, wait := range []int{-1, 0, 1, 9, 10} {
				all = append(all, api.Slot{At: at, By: by, Wait: wait}, api.Slot{At: at, Full: true, By: by, Wait: wait})
			}
		}
	}
	for _, s := range all {
		for _, u := range all {
			f(api.Ring{s, u})
		}
	}
}

func TestP110EveryPairOfSlots(t *testing.T) {
	for nodes := 2; nodes <= 3; nodes++ {
		eachPair(nodes, func(r api.Ring) { expectCheck(t, with(nodes), r, firstError(nodes, r)) })
	}
}
