package ring_test

import (
	"math"
	"slices"
	"testing"

	"ringdove/api"
	"ringdove/ring"
)

func expectPut(t *testing.T, c api.Config, r api.Ring, node, wait int, want api.Ring, filled bool) {
	t.Helper()
	if y, is, e := ring.Put(c, r, node, wait); !slices.Equal(y, want) || is != filled || e != api.OK {
		t.Errorf("Put(%+v, %+v, %d, %d) = %+v, %v, %d, want %+v, %v", c, r, node, wait, y, is, e, want, filled)
	}
}

func expectStep(t *testing.T, c api.Config, r, want api.Ring, nodes ...int) {
	t.Helper()
	if y, back, e := ring.Step(c, r); !slices.Equal(y, want) || !slices.Equal(back, nodes) || e != api.OK {
		t.Errorf("Step(%+v, %+v) = %+v, %v, %d, want %+v, %v", c, r, y, back, e, want, nodes)
	}
}

// put is Put where no error is expected.
func put(t *testing.T, c api.Config, r api.Ring, node, wait int) (api.Ring, bool) {
	t.Helper()
	y, is, e := ring.Put(c, r, node, wait)
	if e != api.OK {
		t.Fatalf("Put(%+v, %+v, %d, %d): error %d", c, r, node, wait, e)
	}
	return y, is
}

// step is Step where no error is expected.
func step(t *testing.T, c api.Config, r api.Ring) (api.Ring, []int) {
	t.Helper()
	y, back, e := ring.Step(c, r)
	if e != api.OK {
		t.Fatalf("Step(%+v, %+v): error %d", c, r, e)
	}
	return y, back
}

func isFull(s api.Slot) bool { return s.Full }

// In a new ring, slot k is the first one at node k, if there are that many slots.
func TestP111PutIntoANewRing(t *testing.T) {
	each(func(nodes, slots int) {
		for node := range nodes {
			for wait := range 10 {
				want := empty(nodes, slots)
				if node < slots {
					want[node] = api.Slot{At: node, Full: true, By: node, Wait: wait}
				}
				expectPut(t, with(nodes), empty(nodes, slots), node, wait, want, node < slots)
			}
		}
	})
}

func TestP111TheFirstEmptySlotAtTheNode(t *testing.T) {
	other := api.Slot{At: 1, Full: true, By: 2, Wait: 3}
	mine := api.Slot{At: 1, Full: true, By: 1, Wait: 4}
	for _, x := range []struct{ r, want api.Ring }{
		{api.Ring{{At: 1}}, api.Ring{mine}},
		{api.Ring{{At: 1}, {At: 1}, {At: 1}}, api.Ring{mine, {At: 1}, {At: 1}}},
		{api.Ring{{At: 0}, {At: 1}, {At: 1}}, api.Ring{{At: 0}, mine, {At: 1}}},
		{api.Ring{{At: 2}, {At: 0}, {At: 1}}, api.Ring{{At: 2}, {At: 0}, mine}},
		{api.Ring{other, {At: 1}, {At: 1}}, api.Ring{other, mine, {At: 1}}},
		{api.Ring{{At: 1}, other, {At: 1}}, api.Ring{mine, other, {At: 1}}},
		{api.Ring{other, {At: 2}, {At: 0}, {At: 1}}, api.Ring{other, {At: 2}, {At: 0}, mine}},
	} {
		expectPut(t, with(3), x.r, 1, 4, x.want, true)
	}
}

func TestP111NoEmptySlotAtTheNode(t *testing.T) {
	for _, r := range []api.Ring{
		{{At: 0}},
		{{At: 2}, {At: 0}, {At: 2}},
		{{At: 1, Full: true, By: 0}},
		{{At: 1, Full: true, By: 2, Wait: 9}, {At: 1, Full: true, By: 0}},
		{{At: 1, Full: true, By: 0, Wait: 1}, {At: 0}, {At: 2}},
		{{At: 0}, {At: 1, Full: true, By: 0}},
	} {
		for wait := range 10 {
			expectPut(t, with(3), r, 1, wait, r, false)
		}
	}
}

// full returns a ring in which slot k is filled by node k, with the waits that the function returns.
func full(nodes, slots int, wait func(node int) int) api.Ring {
	r := empty(nodes, slots)
	for k := range r {
		r[k] = api.Slot{At: k, Full: true, By: k, Wait: wait(k)}
	}
	return r
}

func TestP111AFullRing(t *testing.T) {
	each(func(nodes, slots int) {
		if slots > nodes {
			return
		}
		c := with(nodes)
		want := full(nodes, slots, func(node int) int { return node + 1 })
		r := empty(nodes, slots)
		for node := range slots {
			is := false
			if r, is = put(t, c, r, node, node+1); !is {
				t.Fatalf("%d nodes, %d slots: node %d finds no slot", nodes, slots, node)
			}
		}
		if !slices.Equal(r, want) {
			t.Errorf("%+v, want %+v", r, want)
		}
		for node := range nodes {
			if node < slots {
				expectNoPut(t, c, r, node, 0, api.ErrThere)
			} else {
				expectPut(t, c, r, node, 0, r, false)
			}
		}
	})
}

func TestP111PutOutOfRange(t *testing.T) {
	for nodes := 2; nodes <= 8; nodes++ {
		c := with(nodes)
		for _, r := range []api.Ring{empty(nodes, 1), empty(nodes, 8), {{At: 1, Full: true, By: 1}}} {
			for _, node := range badNodes(nodes) {
				for wait := range 10 {
					expectNoPut(t, c, r, node, wait, api.ErrRange)
				}
				for _, wait := range badWaits {
					expectNoPut(t, c, r, node, wait, api.ErrRange)
				}
			}
			// Also for a node that has filled a slot, and for one that finds no slot.
			for node := range nodes {
				for _, wait := range badWaits {
					expectNoPut(t, c, r, node, wait, api.ErrRange)
				}
			}
		}
	}
}

// The slot of the node may be anywhere, and an empty one may be at the node or not.
func TestP111PutTwice(t *testing.T) {
	for nodes := 2; nodes <= 8; nodes++ {
		for node := range nodes {
			for at := range nodes {
				mine := api.Slot{At: at, Full: true, By: node, Wait: at}
				for _, r := range []api.Ring{{mine}, {mine, {At: node}}, {{At: node}, mine}, {{At: after(node, nodes)}, mine}} {
					for wait := range 10 {
						expectNoPut(t, with(nodes), r, node, wait, api.ErrThere)
					}
				}
			}
		}
	}
}

// An empty slot has a By of 0, but node 0 has not filled it.
func TestP111PutAtNode0(t *testing.T) {
	r := api.Ring{{At: 1}, {At: 0}, {At: 0, Full: true, By: 1}}
	expectPut(t, with(2), r, 0, 0, api.Ring{{At: 1}, {At: 0, Full: true}, r[2]}, true)
	expectPut(t, with(2), r[:1], 0, 0, r[:1], false)
}

func TestP111StepOfOneSlot(t *testing.T) {
	for _, x := range []struct {
		s, want api.Slot
		back    []int
	}{
		{api.Slot{At: 0}, api.Slot{At: 1}, nil},
		{api.Slot{At: 1}, api.Slot{At: 2}, nil},
		// An empty slot that comes to node 0 does not return to it.
		{api.Slot{At: 2}, api.Slot{At: 0}, nil},
		// A slot waits at its own node and at another one, and does not return while it waits.
		{api.Slot{At: 0, Full: true, Wait: 9}, api.Slot{At: 0, Full: true, Wait: 8}, nil},
		{api.Slot{At: 1, Full: true, By: 1, Wait: 1}, api.Slot{At: 1, Full: true, By: 1}, nil},
		{api.Slot{At: 0, Full: true, By: 1, Wait: 1}, api.Slot{At: 0, Full: true, By: 1}, nil},
		{api.Slot{At: 2, Full: true, By: 0, Wait: 2}, api.Slot{At: 2, Full: true, By: 0, Wait: 1}, nil},
		{api.Slot{At: 0, Full: true}, api.Slot{At: 1, Full: true}, nil},
		{api.Slot{At: 1, Full: true, By: 1}, api.Slot{At: 2, Full: true, By: 1}, nil},
		{api.Slot{At: 2, Full: true, By: 2}, api.Slot{At: 0, Full: true, By: 2}, nil},
		{api.Slot{At: 2, Full: true, By: 1}, api.Slot{At: 0, Full: true, By: 1}, nil},
		{api.Slot{At: 2, Full: true, By: 0}, api.Slot{At: 0}, []int{0}},
		{api.Slot{At: 0, Full: true, By: 1}, api.Slot{At: 1}, []int{1}},
		{api.Slot{At: 1, Full: true, By: 2}, api.Slot{At: 2}, []int{2}},
	} {
		expectStep(t, with(3), api.Ring{x.s}, api.Ring{x.want}, x.back...)
	}
}

// moved states what one step makes of a slot, and whether the slot returns to its node.
func moved(nodes int, s api.Slot) (api.Slot, bool) {
	next := after(s.At, nodes)
	switch {
	case !s.Full:
		return api.Slot{At: next}, false
	case s.Wait != 0:
		return api.Slot{At: s.At, Full: true, By: s.By, Wait: s.Wait - 1}, false
	case next == s.By:
		return api.Slot{At: next}, true
	}
	return api.Slot{At: next, Full: true, By: s.By}, false
}

func TestP111StepOfEveryPairOfSlots(t *testing.T) {
	for nodes := 2; nodes <= 4; nodes++ {
		eachPair(nodes, func(r api.Ring) {
			if firstError(nodes, r) != api.OK {
				return
			}
			first, is := moved(nodes, r[0])
			second, also := moved(nodes, r[1])
			var back []int
			for node := range nodes {
				if is && r[0].By == node || also && r[1].By == node {
					back = append(back, node)
				}
			}
			expectStep(t, with(nodes), r, api.Ring{first, second}, back...)
		})
	}
}

func TestP111NodesInIncreasingOrder(t *testing.T) {
	for nodes := 2; nodes <= 8; nodes++ {
		before := make([]api.Slot, nodes) // before[k] is about to return to node k
		var all []int
		for k := range nodes {
			before[after(k, nodes)] = api.Slot{At: k, Full: true, By: after(k, nodes)}
			all = append(all, k)
		}
		down := slices.Clone(before)
		slices.Reverse(down)
		round := append(slices.Clone(before[nodes/2:]), before[:nodes/2]...)
		for _, r := range []api.Ring{before, down, round} {
			var want api.Ring
			for _, s := range r {
				want = append(want, api.Slot{At: s.By})
			}
			expectStep(t, with(nodes), r, want, all...)
		}
		for high := range nodes {
			for low := range high {
				want := api.Ring{{At: high}, {At: low}}
				expectStep(t, with(nodes), api.Ring{before[high], before[low]}, want, low, high)
			}
		}
	}
}

func TestP111Example(t *testing.T) {
	c := with(2)
	r := api.Ring{{At: 1}}
	expectPut(t, c, r, 1, 1, api.Ring{{At: 1, Full: true, By: 1, Wait: 1}}, true)
	expectStep(t, c, api.Ring{{At: 1, Full: true, By: 1, Wait: 1}}, api.Ring{{At: 1, Full: true, By: 1}})
	expectStep(t, c, api.Ring{{At: 1, Full: true, By: 1}}, api.Ring{{At: 0, Full: true, By: 1}})
	expectStep(t, c, api.Ring{{At: 0, Full: true, By: 1}}, r, 1)
}

// One slot goes round, and the others go on without it.
func TestP111FromPutUntilEverySlotIsEmpty(t *testing.T) {
	each(func(nodes, slots int) {
		c := with(nodes)
		longest := 0
		for node := range min(nodes, slots) {
			for wait := range 10 {
				r, _ := put(t, c, empty(nodes, slots), node, wait)
				others := empty(nodes, slots)
				steps := 0
				for slices.ContainsFunc(r, isFull) {
					next, back := step(t, c, r)
					steps++
					for k := range others {
						others[k].At = after(others[k].At, nodes)
						if k != node && next[k] != others[k] {
							t.Fatalf("step %d: slot %d is %+v, want %+v", steps, k, next[k], others[k])
						}
					}
					isBack := slices.Equal(back, []int{node})
					if isBack == next[node].Full || !isBack && len(back) > 0 || steps > 100 {
						t.Fatalf("step %d of %+v: %+v, %v", steps, r, next, back)
					}
					r = next
				}
				if steps != nodes+wait || r[node] != (api.Slot{At: node}) {
					t.Errorf("%d nodes, node %d, wait %d: %d steps, and then %+v", nodes, node, wait, steps, r)
				}
				longest = max(longest, steps)
			}
		}
		if n, e := ring.Longest(c, slots); n != longest || e != api.OK {
			t.Errorf("Longest(%+v, %d) = %d, %d, but a slot takes %d steps", c, slots, n, e, longest)
		}
	})
}

// All nodes fill a slot at once, and each of them is returned after its own number of steps.
func TestP111AllNodesAtOnce(t *testing.T) {
	for nodes := 2; nodes <= 8; nodes++ {
		for n, wait := range []func(node int) int{
			func(node int) int { return 0 },
			func(node int) int { return 9 },
			func(node int) int { return node },
			func(node int) int { return 9 - node },
			func(node int) int { return node * node % 10 },
			func(node int) int { return 3 + node%2 },
		} {
			r := full(nodes, nodes, wait)
			for k := 1; k <= nodes+10; k++ {
				var want []int
				for node := range nodes {
					if nodes+wait(node) == k {
						want = append(want, node)
					}
				}
				next, back := step(t, with(nodes), r)
				if !slices.Equal(back, want) {
					t.Fatalf("%d nodes, waits %d, step %d: %v, want %v", nodes, n, k, back, want)
				}
				r = next
			}
			if slices.ContainsFunc(r, isFull) {
				t.Errorf("%d nodes, waits %d: %+v", nodes, n, r)
			}
		}
	}
}

// With more slots than nodes, a node whose slot is away still has to wait for it before it fills another one.
func TestP111MoreSlotsThanNodes(t *testing.T) {
	c := with(2)
	r, _ := put(t, c, empty(2, 5), 1, 2)
	for range 4 {
		expectNoPut(t, c, r, 1, 0, api.ErrThere)
		r, _ = step(t, c, r)
	}
	want := api.Ring{{At: 0}, {At: 1}, {At: 0}, {At: 1}, {At: 0}}
	if !slices.Equal(r, want) {
		t.Fatalf("%+v, want %+v", r, want)
	}
	want[1] = api.Slot{At: 1, Full: true, By: 1}
	expectPut(t, c, r, 1, 0, want, true)
}

// A slot that has returned is empty, and the next node that it comes to may fill it.
func TestP111FilledAgain(t *testing.T) {
	for nodes := 2; nodes <= 8; nodes++ {
		c := with(nodes)
		r := empty(nodes, 1)
		at := 0
		for wait := range 10 {
			is := false
			if r, is = put(t, c, r, at, wait); !is {
				t.Fatalf("node %d finds no slot in %+v", at, r)
			}
			for range nodes + wait {
				r, _ = step(t, c, r)
			}
			if !slices.Equal(r, api.Ring{{At: at}}) {
				t.Fatalf("%+v, want an empty slot at node %d", r, at)
			}
			r, _ = step(t, c, r)
			at = after(at, nodes)
		}
	}
}

// The numbers are written out here, because the other tests count steps.
func TestP111Longest(t *testing.T) {
	for i, want := range []int{11, 12, 13, 14, 15, 16, 17} {
		for slots := 1; slots <= 8; slots++ {
			if n, e := ring.Longest(with(i+2), slots); n != want || e != api.OK {
				t.Errorf("Longest(%d nodes, %d) = %d, %d, want %d", i+2, slots, n, e, want)
			}
		}
	}
}

func TestP111LongestErrors(t *testing.T) {
	expect := func(c api.Config, slots int) {
		t.Helper()
		if n, e := ring.Longest(c, slots); n != 0 || e != api.ErrRange {
			t.Errorf("Longest(%+v, %d) = %d, %d, want 0, ErrRange", c, slots, n, e)
		}
	}
	for nodes := 2; nodes <= 8; nodes++ {
		for _, slots := range badSlots {
			expect(with(nodes), slots)
		}
	}
	for _, c := range badConfigs {
		for _, slots := range append([]int{1, 3, 8}, badSlots...) {
			expect(c, slots)
		}
	}
}

// someRings returns rings of three nodes, without and with an error.
func someRings() []api.Ring {
	return []api.Ring{
		empty(3, 1),
		empty(3, 8),
		{{At: 1, Full: true, By: 2}, {At: 0, Full: true, By: 1}, {At: 2}},
		{{At: 1, Full: true, By: 1, Wait: 9}, {At: 0, Full: true}},
		{{At: 2, Full: true, By: 0}, {At: 2, Full: true, By: 1, Wait: 1}, {At: 1, Full: true, By: 2}},
		{},
		{{At: 3}},
		{{At: 2, By: 1}, {At: 0}},
		{{Full: true, By: 1}, {Full: true, By: 1}},
		make(api.Ring, 9),
	}
}

func TestP111WhatWasPassedInIsUnchanged(t *testing.T) {
	c := with(3)
	for _, x := range someRings() {
		// The slots after the length are empty ones at the nodes, so that a function that looks there fills one.
		long := append(slices.Clone(x), api.Slot{At: 0}, api.Slot{At: 1}, api.Slot{At: 2})
		before := slices.Clone(long)
		r := long[:len(x)]
		var results []api.Ring
		for node := -1; node <= 3; node++ {
			for _, wait := range []int{-1, 0, 9, 10} {
				y, _, _ := ring.Put(c, r, node, wait)
				results = append(results, y)
			}
		}
		y, back, _ := ring.Step(c, r)
		ring.Check(c, r)
		for _, y := range append(results, y) {
			for k := range y[:cap(y)] {
				y[:cap(y)][k] = api.Slot{At: 77, By: 78}
			}
		}
		clear(back[:cap(back)])
		if !slices.Equal(long, before) {
			t.Errorf("%+v, was %+v", long, before)
		}
	}
}

// A later change of what was passed in, or of an earlier result, is not visible in a result.
func TestP111ResultsShareNoMemory(t *testing.T) {
	c := with(3)
	start := api.Ring{{At: 1, Full: true, By: 2}, {At: 0, Full: true, By: 1}, {At: 0}}
	r := slices.Clone(start)
	filled, _ := put(t, c, r, 0, 5)
	same, is := put(t, c, api.Ring(r[:2]), 0, 5)
	stepped, back := step(t, c, r)
	first, _ := ring.New(c, 3)
	second, _ := ring.New(c, 3)
	clear(r)
	clear(first)
	if want := (api.Ring{start[0], start[1], {At: 0, Full: true, Wait: 5}}); !slices.Equal(filled, want) {
		t.Errorf("Put: %+v, want %+v", filled, want)
	}
	if !slices.Equal(same, start[:2]) || is {
		t.Errorf("Put without a slot: %+v, want %+v", same, start[:2])
	}
	if want := (api.Ring{{At: 2}, {At: 1}, {At: 1}}); !slices.Equal(stepped, want) || !slices.Equal(back, []int{1, 2}) {
		t.Errorf("Step: %+v, %v, want %+v", stepped, back, want)
	}
	if !slices.Equal(second, empty(3, 3)) {
		t.Errorf("New: %+v, want %+v", second, empty(3, 3))
	}
	_, again := step(t, c, start)
	clear(back)
	if !slices.Equal(again, []int{1, 2}) {
		t.Errorf("Step: %v, want [1 2]", again)
	}
}

// Numbers at the ends of their ranges have an error, and nothing panics.
func TestP111ExtremeArguments(t *testing.T) {
	ends := []int{math.MinInt, -1, 0, 1, 2, 3, 8, 9, 10, math.MaxInt}
	isNode := func(n int) bool { return n == 0 || n == 1 || n == 2 }
	for _, a := range ends {
		for _, b := range ends {
			_, is, e := ring.Put(with(3), empty(3, 3), a, b)
			good := isNode(a) && b >= 0 && b <= 9
			if is != good || (e == api.OK) != good {
				t.Errorf("Put(%d, %d) = %v, %d", a, b, is, e)
			}
			for _, wait := range ends {
				r := api.Ring{{At: a, Full: true, By: b, Wait: wait}}
				y, _, e := ring.Step(with(3), r)
				good := isNode(a) && isNode(b) && wait >= 0 && wait <= 9
				if (len(y) == 1) != good || (e == api.OK) != good || e != ring.Check(with(3), r) {
					t.Errorf("Step(%+v) = %+v, %d", r, y, e)
				}
			}
		}
	}
}
