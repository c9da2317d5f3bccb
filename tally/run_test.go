package tally_test

import (
	"slices"
	"testing"

	"ringdove/agree"
	"ringdove/api"
	"ringdove/machine"
	"ringdove/order"
	"ringdove/tally"
)

// program returns n operations of a node: all kinds, on lines that other nodes use too.
func program(node, n int) []api.Deed {
	var l []api.Deed
	for i := range n {
		a := (i/2+node)%3*16 + (i*i+node)%4
		l = append(l, operation(node, kinds[(i+i/4+node)%4], a, uint64(100*node+i+1)<<(2*i)))
	}
	return l
}

// build returns a new machine whose memory is not zero, with a program of each length.
func build(t *testing.T, slots int, lengths ...int) api.Machine {
	t.Helper()
	var p [][]api.Deed
	for node, n := range lengths {
		p = append(p, program(node, n))
	}
	m, e := machine.New(with(len(p)), slots, p, []int{3, 0, 1})
	if e != api.OK {
		t.Fatalf("New(%d slots, %+v): error %d", slots, p, e)
	}
	m.World.Memory = filled()
	return m
}

func run(t *testing.T, m api.Machine, cycles int) (api.Machine, []api.Event) {
	t.Helper()
	next, l, e := machine.Run(m, cycles)
	if e != api.OK {
		t.Fatalf("Run(%+v, %d): error %d", m, cycles, e)
	}
	return next, l
}

// expectRun compares the statistics of the events since the machine was built with what the machine itself says.
func expectRun(t *testing.T, m api.Machine, l []api.Event) {
	t.Helper()
	expectAll(t, m.Config, filled(), l)
	logs, _ := tally.Logs(m.Config, l)
	for node, log := range logs {
		same := func(d api.Deed, o api.Told) bool { return d == o.Deed }
		if !slices.EqualFunc(m.Progs[node][:m.At[node]], log, same) {
			t.Errorf("log %+v of node %d, which has performed %d of %+v", log, node, m.At[node], m.Progs[node])
		}
	}
	counts, _ := tally.Counts(m.Config, l)
	by := 0
	for node, n := range counts {
		by += n.By
		if all := n.Loads + n.Stores + n.Swaps + n.Puts; all != m.At[node] || n.By > all {
			t.Errorf("counts %+v of node %d, which has performed %d operations", n, node, m.At[node])
		}
	}
	// Each wait was used for a slot, which has returned or is away.
	for _, s := range m.Ring {
		if s.Full {
			by++
		}
	}
	if by != m.Had {
		t.Errorf("%d slots were filled, but %d waits were used: %+v", by, m.Had, counts)
	}
	flattened, e := agree.Flat(m.Config, m.World)
	if e != api.OK {
		t.Fatalf("Flat: error %d", e)
	}
	expectMemory(t, filled(), l, flat(flattened))
}

func TestP150EventsOfMachines(t *testing.T) {
	for nodes := 2; nodes <= 8; nodes++ {
		for slots := 1; slots <= 8; slots++ {
			lengths := make([]int, nodes)
			for node := range nodes {
				lengths[node] = (7*node + 3*slots) % 21
			}
			for _, n := range [][]int{lengths, slices.Repeat([]int{20}, nodes)} {
				m, l := run(t, build(t, slots, n...), 4000)
				if done, e := machine.Ended(m); !done || e != api.OK {
					t.Fatalf("programs of %d: %v, %d", n, done, e)
				}
				expectRun(t, m, l)
			}
		}
	}
}

// After each number of cycles, by Run and by Step.
func TestP150EventsOfPartsOfARun(t *testing.T) {
	for _, lengths := range [][]int{{0, 0}, {0, 9, 3}, {6, 5, 4, 7}, {3, 3, 3, 3, 3, 3, 3, 3}} {
		first := build(t, 2, lengths...)
		stepped, all := first, []api.Event(nil)
		for cycles := range 150 {
			m, l := run(t, first, cycles)
			expectRun(t, m, l)
			expectRun(t, stepped, all)
			next, more, e := machine.Step(stepped)
			if e != api.OK {
				t.Fatalf("Step(%+v): error %d", stepped, e)
			}
			stepped, all = next, append(all, more...)
		}
	}
}

// An order explains the logs of every run.
func TestP150LogsAreExplained(t *testing.T) {
	for _, lengths := range [][]int{{0, 0}, {6, 6}, {4, 4, 4}, {2, 0, 5, 5}, {1, 1, 1, 1, 1, 1, 1, 1}} {
		for slots := 1; slots <= 8; slots++ {
			_, l := run(t, build(t, slots, lengths...), 4000)
			logs, e := tally.Logs(with(len(lengths)), l)
			if e != api.OK {
				t.Fatalf("Logs: error %d", e)
			}
			if _, is, e := order.Explain(filled(), logs); !is || e != api.OK {
				t.Errorf("Explain(%+v) = %v, %d", logs, is, e)
			}
		}
	}
}

// Other results than those of the run are kept, too, and then no order explains them.
func TestP150WrongResultsOfARun(t *testing.T) {
	m, l := run(t, build(t, 2, 4, 4, 4), 4000)
	for i := range l {
		wrong := slices.Clone(l)
		wrong[i].Told++
		expectRun(t, m, wrong)
		logs, _ := tally.Logs(m.Config, wrong)
		if _, is, e := order.Explain(filled(), logs); is || e != api.OK {
			t.Errorf("Explain(%+v) = %v, %d", logs, is, e)
		}
	}
}
