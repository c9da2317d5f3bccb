package machine_test

import (
	"math"
	"slices"
	"testing"

	"ringdove/api"
	"ringdove/machine"
)

// someMachines returns machines that need between no and some hundred cycles.
func someMachines(t *testing.T) []api.Machine {
	t.Helper()
	moved := build(t, three, 2, programs(5, 5, 5), 1, 8)
	for range 9 {
		moved, _ = expectStep(t, moved)
	}
	return []api.Machine{
		build(t, three, 1, programs(0, 0, 0), 3),
		build(t, three, 1, programs(0, 1, 0)),
		build(t, three, 1, programs(6, 0, 9), 9),
		build(t, three, 4, programs(8, 8, 8), 0, 5),
		build(t, with(2), 1, programs(20, 20), 9, 9, 0),
		build(t, with(5), 2, programs(3, 4, 5, 6, 7), 2),
		build(t, with(8), 8, programs(5, 5, 5, 5, 5, 5, 5, 5), 1, 2, 3),
		moved,
	}
}

// steps returns the machine and all events after each number of cycles, until its programs are finished.
func steps(m api.Machine) ([]api.Machine, [][]api.Event) {
	machines, events := []api.Machine{m}, [][]api.Event{nil}
	var all []api.Event
	for !isDone(m) {
		x, l := model(m)
		m, all = x, append(all, l...)
		machines, events = append(machines, m), append(events, slices.Clone(all))
	}
	return machines, events
}

// Fewer cycles than the programs need, as many, and more.
func TestP142EveryNumberOfCycles(t *testing.T) {
	for _, m := range someMachines(t) {
		machines, events := steps(m)
		last := len(machines) - 1
		for n := range machines {
			expectRun(t, m, n, machines[n], events[n])
			if done, e := machine.Ended(machines[n]); done != (n == last) || e != api.OK {
				t.Errorf("Ended after %d of %d cycles = %v, %d", n, last, done, e)
			}
		}
		for _, n := range []int{last + 1, last + 2, last + 50, 3999, 4000} {
			expectRun(t, m, n, machines[last], events[last])
		}
	}
}

func TestP142TwoParts(t *testing.T) {
	for _, m := range someMachines(t) {
		machines, events := steps(m)
		last := len(machines) - 1
		for first := 0; first <= last; first += 1 + last/9 {
			x, l, e := machine.Run(m, first)
			if e != api.OK {
				t.Fatalf("Run(%+v, %d): error %d", m, first, e)
			}
			for _, second := range []int{0, 1, last - first, last, 4000} {
				n := min(last, first+second)
				rest := events[n][len(events[first]):]
				if !slices.Equal(l, events[first]) {
					t.Fatalf("Run(%+v, %d): %+v, want %+v", m, first, l, events[first])
				}
				expectRun(t, x, second, machines[n], rest)
			}
		}
	}
}

// The ring stands still when all programs are finished.
func TestP142NothingMovesAfterTheEnd(t *testing.T) {
	each(func(nodes, slots int) {
		m := build(t, with(nodes), slots, programs(slices.Repeat([]int{3}, nodes)...), 4)
		m.At, m.Had = slices.Repeat([]int{3}, nodes), 999
		for _, cycles := range []int{0, 1, 2, 4000} {
			expectRun(t, m, cycles, m, nil)
		}
	})
}

func TestP142CyclesOutOfRange(t *testing.T) {
	for _, m := range someMachines(t) {
		for _, cycles := range []int{math.MinInt, -4000, -2, -1, 4001, 4002, 1000000, 1 << 32, math.MaxInt} {
			expectNoRun(t, m, cycles, api.ErrRange)
			// The error of Step comes later, and that of Check comes first.
			m.Had = 1000000
			expectNoRun(t, m, cycles, api.ErrRange)
			wrong := m
			wrong.At = nil
			expectNoRun(t, wrong, cycles, api.ErrForm)
		}
	}
}

// Had becomes too great while the programs run: all six operations need a slot, and after the last wait has been used
// there are more cycles until the slot comes back.
func TestP142HadBecomesTooGreat(t *testing.T) {
	c := api.Config{Nodes: 2, Sets: 1, Ways: 1, Banks: 1}
	p := [][]api.Deed{{load(0, 0), load(0, 1), load(0, 2)}, {load(1, 3), load(1, 4), load(1, 5)}}
	for had := 999980; had <= 1000000; had++ {
		m := build(t, c, 1, p)
		m.Had = had
		for _, cycles := range []int{0, 1, 2, 3, 5, 8, 13, 21, 4000} {
			want, l, is := plainRun(m, cycles)
			if is {
				expectRun(t, m, cycles, want, l)
			} else {
				expectNoRun(t, m, cycles, api.ErrFull)
			}
			if cycles == 0 && !is || cycles == 4000 && is != (had <= 999985) {
				t.Errorf("had %d, %d cycles: %v", had, cycles, is)
			}
		}
	}
}

// plainRun runs the model, and reports whether Had was never too great for a cycle.
func plainRun(m api.Machine, cycles int) (api.Machine, []api.Event, bool) {
	var all []api.Event
	for range cycles {
		if isDone(m) {
			break
		}
		if m.Had > 999991 {
			return api.Machine{}, nil, false
		}
		x, l := model(m)
		m, all = x, append(all, l...)
	}
	return m, all, true
}

// No cycle, no error: of a machine whose Had is too great for a cycle, and which has ended or has not begun.
func TestP142NoCycleWithTheGreatestHad(t *testing.T) {
	ended := build(t, three, 2, programs(1, 2, 3))
	ended.At = []int{1, 2, 3}
	begin := build(t, three, 2, programs(1, 2, 3))
	for _, had := range []int{999991, 999992, 999999, 1000000} {
		ended.Had, begin.Had = had, had
		expectRun(t, ended, 0, ended, nil)
		expectRun(t, ended, 4000, ended, nil)
		expectRun(t, begin, 0, begin, nil)
		if had > 999991 {
			expectNoRun(t, begin, 1, api.ErrFull)
			expectNoRun(t, begin, 4000, api.ErrFull)
		}
	}
}

// Each node alone has one more operation, or none of them has.
func TestP142Ended(t *testing.T) {
	for nodes := 2; nodes <= 8; nodes++ {
		for n := range 21 {
			m := build(t, with(nodes), 1, programs(slices.Repeat([]int{n}, nodes)...))
			for node := range nodes {
				m.At[node] = n
			}
			expectEnded(t, m, true)
			for node := range nodes {
				for at := range n {
					m.At[node] = at
					expectEnded(t, m, false)
				}
				m.At[node] = n
			}
		}
	}
	for _, m := range someMachines(t)[1:] {
		expectEnded(t, m, false)
	}
}

func expectEnded(t *testing.T, m api.Machine, want bool) {
	t.Helper()
	if done, e := machine.Ended(m); done != want || e != api.OK {
		t.Fatalf("Ended(%+v) = %v, %d", m, done, e)
	}
}

func expectBound(t *testing.T, m api.Machine, want int) {
	t.Helper()
	if n, e := machine.Bound(m); n != want || e != api.OK {
		t.Fatalf("Bound(%+v) = %d, %d, want %d", m, n, e, want)
	}
}

// The numbers for one operation are written out here, for 2 to 8 nodes.
func TestP142Bound(t *testing.T) {
	for i, one := range []int{37, 53, 71, 91, 113, 137, 163} {
		nodes := i + 2
		for n := range 21 {
			for node := range nodes {
				lengths := slices.Repeat([]int{n / 2}, nodes)
				lengths[node] = n
				for slots := 1; slots <= 8; slots++ {
					expectBound(t, build(t, with(nodes), slots, programs(lengths...), slots), n*one)
				}
			}
		}
	}
}

// The length of the longest program counts, and not what is left of it; nor do the slots, the waits or Had.
func TestP142BoundOfAMachineThatHasBegun(t *testing.T) {
	m := build(t, three, 3, programs(4, 11, 7), 9, 9)
	expectBound(t, m, 11*53)
	for !isDone(m) {
		m, _ = expectStep(t, m)
		expectBound(t, m, 11*53)
	}
	m.Had, m.Waits, m.Ring = 1000000, nil, m.Ring[:1]
	expectBound(t, m, 11*53)
}

func TestP142EmptyPrograms(t *testing.T) {
	each(func(nodes, slots int) {
		for _, p := range [][][]api.Deed{make([][]api.Deed, nodes), slices.Repeat([][]api.Deed{{}}, nodes)} {
			m := build(t, with(nodes), slots, p, 9)
			expectBound(t, m, 0)
			expectEnded(t, m, true)
			expectRun(t, m, 0, m, nil)
			expectRun(t, m, 4000, m, nil)
		}
	})
}

// rivals returns programs of n operations for caches with room for one line. Every operation needs a slot, because each
// one evicts the line of the next one.
func rivals(nodes, n int) [][]api.Deed {
	p := make([][]api.Deed, nodes)
	for node := range p {
		for i := range n {
			p[node] = append(p[node], swap(node, i%2, uint64(100*node+i)))
		}
	}
	return p
}

// One slot and the greatest waits: the slot is filled n times by each node, goes round for it, and goes on to the next one.
func TestP142EveryMachineEndsWithinBound(t *testing.T) {
	for nodes := 2; nodes <= 8; nodes++ {
		c := api.Config{Nodes: nodes, Sets: 1, Ways: 1, Banks: 1}
		for _, n := range []int{1, 2, 20} {
			m := build(t, c, 1, rivals(nodes, n), 9)
			bound, _ := machine.Bound(m)
			cycles, l := expectEnd(t, m)
			if want := n * nodes * (nodes + 9 + 1); cycles != want || cycles > bound || len(l) != n*nodes {
				t.Errorf("%d nodes, %d operations: %d cycles, want %d, bound %d, %d events", nodes, n, cycles, want, bound, len(l))
			}
		}
	}
}

// The slot may be anywhere at first, filled by any node that has an operation left.
func TestP142EveryFirstSlotEndsWithinBound(t *testing.T) {
	for nodes := 2; nodes <= 4; nodes++ {
		c := api.Config{Nodes: nodes, Sets: 1, Ways: 1, Banks: 1}
		for at := range nodes {
			for by := range nodes {
				for _, n := range []int{1, 2} {
					m := build(t, c, 1, rivals(nodes, n), 9)
					m.Ring[0] = full(at, by, 9)
					expectEnd(t, m)
					m.Ring[0] = api.Slot{At: at}
					expectEnd(t, m)
				}
			}
		}
	}
}

// With other slots and waits, and rivals of different lengths, the machine ends earlier.
func TestP142RivalsWithMoreSlots(t *testing.T) {
	for nodes := 2; nodes <= 6; nodes++ {
		for slots := 1; slots <= 8; slots++ {
			p := rivals(nodes, 4)
			p[slots%nodes] = p[slots%nodes][:2]
			c := api.Config{Nodes: nodes, Sets: 1, Ways: 1, Banks: 1}
			expectEnd(t, build(t, c, slots, p, 9, 0, slots))
		}
	}
}
