package machine_test

import (
	"slices"
	"testing"

	"ringdove/api"
	"ringdove/machine"
)

// expectCycle expects the events, the ring and Had after a cycle, which are written out, and compares it with the model.
func expectCycle(t *testing.T, m api.Machine, events []api.Event, r api.Ring, had int) api.Machine {
	t.Helper()
	x, l := expectStep(t, m)
	if !slices.Equal(l, events) || !slices.Equal(x.Ring, r) || x.Had != had {
		t.Fatalf("Step(%+v): events %+v, ring %+v, had %d, want %+v, %+v, %d", m, l, x.Ring, x.Had, events, r, had)
	}
	return x
}

// load, store, swap and drop return operations at the first word of a line.
func load(node, line int) api.Deed { return operation(node, api.KLoad, 4*line, 0) }

func store(node, line int, v uint64) api.Deed { return operation(node, api.KStore, 4*line, v) }

func swap(node, line int, v uint64) api.Deed { return operation(node, api.KSwap, 4*line, v) }

func drop(node, line int) api.Deed { return operation(node, api.KPut, 4*line, 0) }

// full returns a slot that the node has filled.
func full(at, by, wait int) api.Slot { return api.Slot{At: at, Full: true, By: by, Wait: wait} }

// manyWaits has lists of waits of several lengths.
var manyWaits = [][]int{nil, {0}, {9}, {3, 1}, {0, 9, 4}, {5, 4, 3, 2, 1, 0, 9, 8, 7, 6, 5, 4, 3, 2, 1, 0, 1, 2, 3, 9}}

func TestP141EveryNumberOfNodesAndSlots(t *testing.T) {
	each(func(nodes, slots int) {
		for n, waits := range manyWaits {
			lengths := make([]int, nodes)
			for node := range lengths {
				lengths[node] = (5*n + 7*node + slots) % 13
			}
			expectEnd(t, build(t, with(nodes), slots, programs(lengths...), waits...))
		}
	})
}

// There are events of all kinds, by the ring and not.
func TestP141ProgramsOfEachLength(t *testing.T) {
	var count [5][2]int
	for n := range 21 {
		c := api.Config{Nodes: 2 + n%3, Sets: 1 << (n % 3), Ways: 1 + n%2, Banks: 1}
		m := build(t, c, 1+n%3, programs(slices.Repeat([]int{n}, c.Nodes)...), n%10, (n+5)%10, 0)
		_, l := expectEnd(t, m)
		if len(l) != n*c.Nodes {
			t.Fatalf("%d events, want %d", len(l), n*c.Nodes)
		}
		for _, x := range l {
			if x.By {
				count[x.Deed.Kind][1]++
			} else {
				count[x.Deed.Kind][0]++
			}
		}
	}
	for _, k := range kinds {
		if count[k][0] == 0 || count[k][1] == 0 {
			t.Errorf("kind %d: %d events, and %d by the ring", k, count[k][0], count[k][1])
		}
	}
}

// The program of each node is the only one, alone or beside slots that are not its own.
func TestP141OneProgram(t *testing.T) {
	for nodes := 2; nodes <= 8; nodes++ {
		for node := range nodes {
			p := make([][]api.Deed, nodes)
			p[node] = program(node, 7)
			for slots := 1; slots <= 8; slots += 3 {
				expectEnd(t, build(t, with(nodes), slots, p, node, 1))
			}
		}
	}
}

// A store, two loads and a swap of the same line, from the first cycle to the last one.
func TestP141CycleByCycle(t *testing.T) {
	m := build(t, three, 2, [][]api.Deed{{store(0, 5, 1)}, {load(1, 5), load(1, 5)}, {drop(2, 5), swap(2, 5, 3)}}, 2, 0)
	// No slot is at node 0, node 1 fills its one with the first wait, and node 2 does not have the line.
	m = expectCycle(t, m, []api.Event{{Deed: drop(2, 5)}}, api.Ring{full(1, 1, 2), {At: 2}}, 1)
	// The slot at node 0 is the one that node 2 has left empty. Now node 2 has no slot.
	m = expectCycle(t, m, nil, api.Ring{full(1, 1, 1), full(0, 0, 0)}, 2)
	m = expectCycle(t, m, nil, api.Ring{full(1, 1, 0), full(1, 0, 0)}, 2)
	m = expectCycle(t, m, nil, api.Ring{full(2, 1, 0), full(2, 0, 0)}, 2)
	m = expectCycle(t, m, []api.Event{{Deed: store(0, 5, 1), By: true}}, api.Ring{full(0, 1, 0), {At: 0}}, 2)
	m = expectCycle(t, m, []api.Event{{Deed: load(1, 5), Told: 1, By: true}}, api.Ring{{At: 1}, {At: 1}}, 2)
	// Node 2 fills the first slot with the first wait again.
	m = expectCycle(t, m, []api.Event{{Deed: load(1, 5), Told: 1}}, api.Ring{full(2, 2, 2), {At: 2}}, 3)
	m = expectCycle(t, m, nil, api.Ring{full(2, 2, 1), {At: 0}}, 3)
	m = expectCycle(t, m, nil, api.Ring{full(2, 2, 0), {At: 1}}, 3)
	m = expectCycle(t, m, nil, api.Ring{full(0, 2, 0), {At: 2}}, 3)
	m = expectCycle(t, m, nil, api.Ring{full(1, 2, 0), {At: 0}}, 3)
	m = expectCycle(t, m, []api.Event{{Deed: swap(2, 5, 3), Told: 1, By: true}}, api.Ring{{At: 2}, {At: 1}}, 3)
	if !isDone(m) || names(m.World, 5) != "IIM" || m.World.Memory[5][0] != 1050 {
		t.Errorf("%+v", m)
	}
}

// Each operation in each state of the line: a hit is performed in the first cycle, and the others fill the slot.
func TestP141EachKindInEachState(t *testing.T) {
	for _, at := range []string{"III", "ISI", "SII", "SSI", "SSS", "EII", "IEI", "OII", "OSI", "IOI", "SOI", "MII", "IMI"} {
		for _, k := range kinds {
			d := operation(0, k, 22, 8)
			m := build(t, three, 3, [][]api.Deed{{d}, nil, nil}, 6)
			give(m, 5, at)
			told := m.World.Memory[5][2]
			if at == "OII" || at == "OSI" || at == "IOI" || at == "SOI" || at == "MII" || at == "IMI" {
				told = fresh[2]
			}
			if k == api.KStore || k == api.KPut {
				told = 0
			}
			if hits(at[0], k) {
				expectCycle(t, m, []api.Event{{Deed: d, Told: told}}, api.Ring{{At: 1}, {At: 2}, {At: 0}}, 0)
			} else {
				m = expectCycle(t, m, nil, api.Ring{{At: 1}, {At: 2}, full(0, 0, 6)}, 1)
				for range 8 {
					m, _ = expectStep(t, m)
				}
				expectCycle(t, m, []api.Event{{Deed: d, Told: told, By: true}}, api.Ring{{At: 1}, {At: 2}, {At: 0}}, 1)
			}
			expectEnd(t, m)
		}
	}
}

// A line that the node does not have is put with no effect, whoever else has it: nothing changes in the caches.
func TestP141PutOfALineThatIsNotThere(t *testing.T) {
	for _, at := range []string{"III", "ISI", "ISS", "IEI", "IOI", "IOS", "IMI"} {
		m := build(t, three, 1, [][]api.Deed{{drop(0, 9), drop(0, 9)}, nil, nil})
		give(m, 9, at)
		give(m, 2, "MII")
		x := expectCycle(t, m, []api.Event{{Deed: drop(0, 9)}}, api.Ring{{At: 1}}, 0)
		if !sameWorld(x.World, m.World) {
			t.Errorf("%s: %+v, was %+v", at, x.World, m.World)
		}
		x = expectCycle(t, x, []api.Event{{Deed: drop(0, 9)}}, api.Ring{{At: 2}}, 0)
		if !sameWorld(x.World, m.World) || !isDone(x) {
			t.Errorf("%s: %+v, was %+v", at, x.World, m.World)
		}
	}
}

// Node 0 fills a slot to put a line in state M. Before it comes back, node 1 stores in this line.
func TestP141PutOfALineThatIsLostOnTheWay(t *testing.T) {
	m := build(t, three, 1, [][]api.Deed{{drop(0, 9)}, {store(1, 9, 4)}, nil})
	m.Ring = api.Ring{full(0, 0, 1), full(0, 1, 0)}
	give(m, 9, "MII")
	m = expectCycle(t, m, []api.Event{{Deed: store(1, 9, 4), By: true}}, api.Ring{full(0, 0, 0), {At: 1}}, 0)
	if names(m.World, 9) != "IMI" {
		t.Fatalf("states are %s", names(m.World, 9))
	}
	before := m.World
	m = expectCycle(t, m, nil, api.Ring{full(1, 0, 0), {At: 2}}, 0)
	m = expectCycle(t, m, nil, api.Ring{full(2, 0, 0), {At: 0}}, 0)
	m = expectCycle(t, m, []api.Event{{Deed: drop(0, 9), By: true}}, api.Ring{{At: 0}, {At: 1}}, 0)
	if !sameWorld(m.World, before) || !isDone(m) {
		t.Errorf("%+v, was %+v", m.World, before)
	}
}

// Nodes that are returned in the same cycle go first, in their order, wherever their slots are in the ring.
func TestP141TwoNodesReturnedAtOnce(t *testing.T) {
	p := [][]api.Deed{{load(0, 6)}, {swap(1, 6, 11), load(1, 6)}, {swap(2, 6, 12), load(2, 6)}}
	for _, r := range []api.Ring{{full(0, 1, 0), full(1, 2, 0)}, {full(1, 2, 0), full(0, 1, 0)}} {
		m := build(t, three, 2, p)
		m.Ring = r
		give(m, 6, "SII")
		want := []api.Event{{Deed: swap(1, 6, 11), Told: 1060, By: true}, {Deed: swap(2, 6, 12), Told: 11, By: true}}
		// Node 0 had the line before, and node 2, which has it now, does not load it in this cycle.
		x, l := expectStep(t, m)
		if !slices.Equal(l, want) || names(x.World, 6) != "IIM" || x.Had != 0 || !slices.Equal(x.At, []int{0, 1, 1}) {
			t.Errorf("%+v, at %d, states %s", l, x.At, names(x.World, 6))
		}
		expectEnd(t, m)
	}
}

// All nodes are returned at once, and so the last one has the line.
func TestP141AllNodesReturnedAtOnce(t *testing.T) {
	for nodes := 2; nodes <= 8; nodes++ {
		var p [][]api.Deed
		var r api.Ring
		var want []api.Event
		told := uint64(1000)
		for node := range nodes {
			p = append(p, []api.Deed{swap(node, 0, uint64(node)), load(node, 0)})
			want = append(want, api.Event{Deed: p[node][0], Told: told, By: true})
			last := nodes - 1 - node // the slots are in decreasing order
			r = append(r, full((last+nodes-1)%nodes, last, 0))
			told = uint64(node)
		}
		m := build(t, with(nodes), 1, p)
		m.Ring = r
		if x, l := expectStep(t, m); !slices.Equal(l, want) || letter(x.World, nodes-1, 0) != 'M' {
			t.Errorf("%+v, want %+v", l, want)
		}
		expectEnd(t, m)
	}
}

// The node that is returned goes before a smaller one with a hit, and takes the line from it.
func TestP141ReturnedNodesGoFirst(t *testing.T) {
	m := build(t, three, 1, [][]api.Deed{{load(0, 6)}, {load(1, 7)}, {swap(2, 6, 3)}}, 5)
	m.Ring = api.Ring{full(1, 2, 0), {At: 2}}
	give(m, 6, "EII")
	give(m, 7, "IEI")
	by := api.Event{Deed: swap(2, 6, 3), Told: 1060, By: true}
	expectCycle(t, m, []api.Event{by, {Deed: load(1, 7), Told: 1070}}, api.Ring{{At: 2}, full(0, 0, 5)}, 1)
	m.Progs[0][0] = load(0, 5)
	give(m, 5, "EII")
	expectCycle(t, m, []api.Event{by, {Deed: load(0, 5), Told: 1050}, {Deed: load(1, 7), Told: 1070}}, api.Ring{{At: 2}, {At: 0}}, 0)
}

// A node performs one operation in a cycle: also if the next one is a hit, after the ring or after a hit.
func TestP141OneOperationInACycle(t *testing.T) {
	m := build(t, three, 1, [][]api.Deed{{load(0, 6), load(0, 6), drop(0, 8)}, nil, nil})
	m.Ring = api.Ring{full(2, 0, 0)}
	m = expectCycle(t, m, []api.Event{{Deed: load(0, 6), Told: 1060, By: true}}, api.Ring{{At: 0}}, 0)
	m = expectCycle(t, m, []api.Event{{Deed: load(0, 6), Told: 1060}}, api.Ring{{At: 1}}, 0)
	m = expectCycle(t, m, []api.Event{{Deed: drop(0, 8)}}, api.Ring{{At: 2}}, 0)
	expectCycle(t, m, nil, api.Ring{{At: 0}}, 0)
}

// A node that is returned does not fill the slot again in the same cycle, nor another one.
func TestP141ReturnedNodeFillsNoSlot(t *testing.T) {
	m := build(t, three, 1, [][]api.Deed{{load(0, 6), load(0, 7)}, nil, nil}, 4)
	m.Ring = api.Ring{full(2, 0, 0), {At: 2}}
	m = expectCycle(t, m, []api.Event{{Deed: load(0, 6), Told: 1060, By: true}}, api.Ring{{At: 0}, {At: 0}}, 0)
	m = expectCycle(t, m, nil, api.Ring{{At: 1}, {At: 1}}, 0)
	m = expectCycle(t, m, nil, api.Ring{{At: 2}, {At: 2}}, 0)
	expectCycle(t, m, nil, api.Ring{full(0, 0, 4), {At: 0}}, 1)
}

// A node whose slot is away does nothing, even if its operation has become a hit or an empty slot is there.
func TestP141SlotIsAway(t *testing.T) {
	m := build(t, three, 1, [][]api.Deed{{load(0, 6)}, nil, nil}, 4)
	m.Ring = api.Ring{full(0, 0, 2), {At: 2}}
	give(m, 6, "EII")
	m = expectCycle(t, m, nil, api.Ring{full(0, 0, 1), {At: 0}}, 0)
	m = expectCycle(t, m, nil, api.Ring{full(0, 0, 0), {At: 1}}, 0)
	m = expectCycle(t, m, nil, api.Ring{full(1, 0, 0), {At: 2}}, 0)
	m = expectCycle(t, m, nil, api.Ring{full(2, 0, 0), {At: 0}}, 0)
	expectCycle(t, m, []api.Event{{Deed: load(0, 6), Told: 1060, By: true}}, api.Ring{{At: 0}, {At: 1}}, 0)
}

// A slot that has a wait left stays, be it at its node, one step before it, or elsewhere.
func TestP141WaitLeft(t *testing.T) {
	for wait := range 10 {
		for at := range 3 {
			m := build(t, three, 1, [][]api.Deed{{load(0, 6)}, nil, nil})
			m.Ring = api.Ring{full(at, 0, wait)}
			for left := wait; left > 0; left-- {
				m = expectCycle(t, m, nil, api.Ring{full(at, 0, left-1)}, 0)
			}
			for step := at + 1; step < 3; step++ {
				m = expectCycle(t, m, nil, api.Ring{full(step, 0, 0)}, 0)
			}
			expectCycle(t, m, []api.Event{{Deed: load(0, 6), Told: 1060, By: true}}, api.Ring{{At: 0}}, 0)
		}
	}
}

// The node waits until an empty slot is there, and uses no wait before.
func TestP141WaitingForASlot(t *testing.T) {
	for nodes := 2; nodes <= 8; nodes++ {
		p := make([][]api.Deed, nodes)
		p[nodes-1] = []api.Deed{load(nodes-1, 1)}
		m := build(t, with(nodes), 1, p, 7, 8)
		m.Had = 1
		for at := 1; at < nodes-1; at++ {
			m = expectCycle(t, m, nil, api.Ring{{At: at}}, 1)
		}
		expectCycle(t, m, nil, api.Ring{full(nodes-1, nodes-1, 8)}, 2)
	}
}

// Every slot is filled by another node, also the one at the node. Had stays until one of them is empty.
func TestP141FullRing(t *testing.T) {
	m := build(t, three, 1, [][]api.Deed{{load(0, 6)}, {load(1, 6), drop(1, 3)}, {load(2, 6), drop(2, 3)}}, 3, 9)
	m.Ring = api.Ring{full(2, 1, 0), full(1, 2, 1)}
	m = expectCycle(t, m, nil, api.Ring{full(0, 1, 0), full(1, 2, 0)}, 0)
	m = expectCycle(t, m, []api.Event{{Deed: load(1, 6), Told: 1060, By: true}, {Deed: load(2, 6), Told: 1060, By: true}}, api.Ring{{At: 1}, {At: 2}}, 0)
	expectCycle(t, m, []api.Event{{Deed: drop(1, 3)}, {Deed: drop(2, 3)}}, api.Ring{{At: 2}, full(0, 0, 3)}, 1)
	// As many slots as nodes: each of them is filled at once, and then nobody can fill another one.
	for nodes := 2; nodes <= 8; nodes++ {
		p := make([][]api.Deed, nodes)
		want := make(api.Ring, nodes)
		for node := range nodes {
			p[node] = []api.Deed{load(node, node), load(node, node+1)}
			want[(node+nodes-1)%nodes] = full(node, node, node)
		}
		m := build(t, with(nodes), nodes, p, 0, 1, 2, 3, 4, 5, 6, 7)
		m = expectCycle(t, m, nil, want, nodes)
		x, l := expectStep(t, m)
		if len(l) != 0 || x.Had != nodes {
			t.Errorf("%d nodes: %+v, %d", nodes, l, x.Had)
		}
		expectEnd(t, m)
	}
}

// The node that finds no slot leaves the wait to the next node that does.
func TestP141WaitOfTheNextNode(t *testing.T) {
	m := build(t, three, 1, [][]api.Deed{{load(0, 6)}, {load(1, 6)}, {load(2, 6)}}, 1, 2, 3, 4)
	m.Ring, m.Had = api.Ring{{At: 1}}, 2
	expectCycle(t, m, nil, api.Ring{full(2, 2, 3)}, 3)
	m.Ring = api.Ring{{At: 1}, {At: 0}, {At: 1}}
	expectCycle(t, m, nil, api.Ring{full(2, 2, 4), full(1, 1, 3), {At: 2}}, 4)
}

// The waits are used in turn, in the order of the nodes, and from the beginning again.
func TestP141WaitsInTurn(t *testing.T) {
	for n := range 21 {
		var waits []int
		for i := range n {
			waits = append(waits, (3*i+1)%10)
		}
		for _, had := range []int{0, 1, n, 19, 20, 21, 41, 1234, 999983} {
			c := with(8)
			var p [][]api.Deed
			for node := range 8 {
				p = append(p, []api.Deed{load(node, node)})
			}
			m := build(t, c, 8, p, waits...)
			m.Had = had
			want := make(api.Ring, 8)
			for node := range 8 {
				wait := 0
				if n > 0 {
					wait = waits[(had+node)%n]
				}
				want[(node+7)%8] = full(node, node, wait)
			}
			expectCycle(t, m, nil, want, had+8)
		}
	}
}

// The operations of one node use one wait after another.
func TestP141WaitsOfOneNode(t *testing.T) {
	waits := []int{2, 0, 5}
	var p []api.Deed
	for line := range 8 {
		p = append(p, load(1, line))
	}
	m := build(t, api.Config{Nodes: 2, Sets: 1, Ways: 1, Banks: 1}, 1, [][]api.Deed{nil, p}, waits...)
	for k := range 8 {
		for !slices.ContainsFunc(m.Ring, isFull) {
			m, _ = expectStep(t, m)
		}
		if m.Had != k+1 || !slices.Equal(m.Ring, api.Ring{full(1, 1, waits[k%3])}) {
			t.Fatalf("operation %d: had %d, ring %+v", k, m.Had, m.Ring)
		}
		for slices.ContainsFunc(m.Ring, isFull) {
			m, _ = expectStep(t, m)
		}
	}
}

// An operation sees what the nodes before it have done in the same cycle.
func TestP141NodesInOrder(t *testing.T) {
	m := build(t, three, 3, [][]api.Deed{{drop(0, 6)}, {load(1, 6)}, {load(2, 6), swap(2, 6, 3)}})
	give(m, 6, "SSI")
	m = expectCycle(t, m, []api.Event{{Deed: drop(0, 6)}, {Deed: load(1, 6), Told: 1060}}, api.Ring{{At: 1}, full(2, 2, 0), {At: 0}}, 1)
	if names(m.World, 6) != "ISI" {
		t.Errorf("states are %s", names(m.World, 6))
	}
	expectEnd(t, m)
}

// The slots go on when all programs are finished, and nothing else happens.
func TestP141AllProgramsFinished(t *testing.T) {
	each(func(nodes, slots int) {
		m := build(t, with(nodes), slots, programs(slices.Repeat([]int{3}, nodes)...), 5)
		m.At, m.Had = slices.Repeat([]int{3}, nodes), 17
		give(m, 0, "SO")
		want := clone(m)
		for range nodes + 1 {
			for k := range want.Ring {
				want.Ring[k].At = after(want.Ring[k].At, nodes)
			}
			x, l, e := machine.Step(m)
			if !same(x, want) || len(l) != 0 || e != api.OK {
				t.Fatalf("Step(%+v) = %+v, %+v, %d", m, x, l, e)
			}
			m = x
		}
	})
}

// MaxTime - MaxNodes is too much even if no node needs a slot, and one less is not even if all of them do.
func TestP141GreatestHad(t *testing.T) {
	c := with(8)
	var p [][]api.Deed
	for node := range 8 {
		p = append(p, []api.Deed{load(node, node)})
	}
	for _, had := range []int{999000, 999990, 999991} {
		m := build(t, c, 8, p, 9, 8, 7)
		m.Had = had
		if x, _ := expectStep(t, m); x.Had != had+8 {
			t.Errorf("Had is %d after %d", x.Had, had)
		}
	}
	finished := build(t, three, 1, programs(0, 0, 0))
	hit := build(t, three, 1, [][]api.Deed{{load(0, 5)}, nil, nil})
	give(hit, 5, "EII")
	for _, had := range []int{999992, 999993, 999999, 1000000} {
		for _, m := range []api.Machine{build(t, c, 8, p, 9), finished, hit} {
			m.Had = had
			if e := machine.Check(m); e != api.OK {
				t.Errorf("Had %d: error %d", had, e)
			}
			expectNoStep(t, m, api.ErrFull)
		}
	}
}

// The errors of Check come before a Had that is too great.
func TestP141GreatestHadAndOtherErrors(t *testing.T) {
	for _, x := range slices.Concat(worldSpoilers, ringSpoilers, otherSpoilers) {
		m := begun(t)
		m.Had = 1000000
		x.spoil(&m)
		expectError(t, m, x.want)
	}
}

// Slots of any number of nodes, anywhere and with any wait, and programs that have begun.
func TestP141HandmadeRings(t *testing.T) {
	seed := uint32(1)
	draw := func(n int) int {
		seed = seed*1664525 + 1013904223
		return int(seed>>16) % n
	}
	for range 150 {
		nodes := 2 + draw(4)
		lengths := make([]int, nodes)
		for node := range lengths {
			lengths[node] = draw(9)
		}
		m := build(t, with(nodes), 1+draw(8), programs(lengths...), draw(10), draw(10), draw(3))
		m.Had = draw(50)
		give(m, 0, []string{"MI", "OS", "SS", "EI", "IM"}[draw(5)])
		var may []int
		for node, n := range lengths {
			if m.At[node] = draw(n + 1); m.At[node] < n {
				may = append(may, node)
			}
		}
		for k := range m.Ring {
			m.Ring[k].At = draw(nodes)
			if len(may) > 0 && draw(3) > 0 {
				i := draw(len(may))
				m.Ring[k] = full(m.Ring[k].At, may[i], draw(10))
				may = slices.Delete(may, i, i+1)
			}
		}
		expectEnd(t, m)
	}
}
