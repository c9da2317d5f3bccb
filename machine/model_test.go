package machine_test

import (
	"math"
	"slices"
	"strings"
	"testing"

	"ringdove/agree"
	"ringdove/api"
	"ringdove/atomic"
	"ringdove/deed"
	"ringdove/machine"
	"ringdove/order"
)

const letters = "ISEOM"

var kinds = []api.Kind{api.KLoad, api.KStore, api.KSwap, api.KPut}

// three is a configuration in which a cache has room for two lines.
var three = api.Config{Nodes: 3, Sets: 1, Ways: 2, Banks: 1}

// fresh are data that no line of memory has.
var fresh = api.Line{70, 71, math.MaxUint64, 73}

// with returns a configuration with the number of nodes, and with other numbers that differ.
func with(nodes int) api.Config {
	return api.Config{Nodes: nodes, Sets: 1 << (nodes % 3), Ways: 1 + nodes%4, Banks: 1 + (nodes+1)%4}
}

// after counts round from 0 to n - 1, so that what is wanted does not rest on the arithmetic under test.
func after(k, n int) int {
	if k+1 == n {
		return 0
	}
	return k + 1
}

// empty returns the ring of a new machine.
func empty(nodes, slots int) api.Ring {
	var r api.Ring
	at := 0
	for range slots {
		r = append(r, api.Slot{At: at})
		at = after(at, nodes)
	}
	return r
}

// noWorld returns the system state of a new machine.
func noWorld(c api.Config) api.World {
	w := api.World{Caches: make([]api.Cache, c.Nodes)}
	for i := range w.Caches {
		w.Caches[i] = make(api.Cache, c.Sets)
		for k := range w.Caches[i] {
			w.Caches[i][k].Ways = make([]api.Way, c.Ways)
		}
	}
	return w
}

// operation returns an operation that has a Value if its kind may have one.
func operation(node int, k api.Kind, a int, v uint64) api.Deed {
	if k != api.KStore && k != api.KSwap {
		v = 0
	}
	return api.Deed{Node: node, Kind: k, Addr: a, Value: v}
}

// program returns the first n operations of a node: all kinds, on three lines of one set that other nodes use too.
func program(node, n int) []api.Deed {
	var l []api.Deed
	for i := range n {
		line := 4 * ((i/2 + node) % 3)
		l = append(l, operation(node, kinds[(i+i/4+node)%4], 4*line+(i+node)%4, uint64(100*node+i+1)<<(2*i)))
	}
	return l
}

// programs returns a program of each length, for node 0 and the nodes after it.
func programs(lengths ...int) [][]api.Deed {
	var p [][]api.Deed
	for node, n := range lengths {
		p = append(p, program(node, n))
	}
	return p
}

// each visits every number of nodes with every number of slots.
func each(f func(nodes, slots int)) {
	for nodes := 2; nodes <= 8; nodes++ {
		for slots := 1; slots <= 8; slots++ {
			f(nodes, slots)
		}
	}
}

// build returns a new machine whose memory is not zero, and in which all words of memory differ.
func build(t *testing.T, c api.Config, slots int, p [][]api.Deed, waits ...int) api.Machine {
	t.Helper()
	m, e := machine.New(c, slots, p, waits)
	if e != api.OK {
		t.Fatalf("New(%+v, %d, %+v, %d): error %d", c, slots, p, waits, e)
	}
	for i := range m.World.Memory {
		for k := range m.World.Memory[i] {
			m.World.Memory[i][k] = uint64(1000 + 10*i + k)
		}
	}
	return m
}

// give puts the line into the caches, in the states of the letters. Data that nobody owns are those of memory.
func give(m api.Machine, line int, at string) {
	data := m.World.Memory[line]
	if strings.ContainsAny(at, "OM") {
		data = fresh
	}
	for node, letter := range at {
		if letter == 'I' {
			continue
		}
		ways := m.World.Caches[node][line%m.Config.Sets].Ways
		i := slices.IndexFunc(ways, func(x api.Way) bool { return x.At == api.I })
		ways[i] = api.Way{At: api.State(strings.IndexRune(letters, letter)), Line: line, Data: data}
	}
}

// letter returns the node's state of the line.
func letter(w api.World, node, line int) byte {
	for _, r := range w.Caches[node] {
		for _, x := range r.Ways {
			if x.At != api.I && x.Line == line {
				return letters[x.At]
			}
		}
	}
	return 'I'
}

// names returns the states of all nodes.
func names(w api.World, line int) string {
	var s strings.Builder
	for node := range w.Caches {
		s.WriteByte(letter(w, node, line))
	}
	return s.String()
}

// clone returns a machine that shares no memory with m.
func clone(m api.Machine) api.Machine {
	m.World.Caches = slices.Clone(m.World.Caches)
	for i, h := range m.World.Caches {
		m.World.Caches[i] = slices.Clone(h)
		for k, r := range h {
			m.World.Caches[i][k].Ways = slices.Clone(r.Ways)
		}
	}
	m.Ring = slices.Clone(m.Ring)
	m.Progs = slices.Clone(m.Progs)
	for node, l := range m.Progs {
		m.Progs[node] = slices.Clone(l)
	}
	m.At = slices.Clone(m.At)
	m.Waits = slices.Clone(m.Waits)
	return m
}

// same does not tell a nil slice from an empty one.
func same(m, n api.Machine) bool {
	return m.Config == n.Config && sameWorld(m.World, n.World) && slices.Equal(m.Ring, n.Ring) &&
		slices.EqualFunc(m.Progs, n.Progs, slices.Equal[[]api.Deed]) &&
		slices.Equal(m.At, n.At) && slices.Equal(m.Waits, n.Waits) && m.Had == n.Had
}

func sameWorld(w, x api.World) bool {
	sameSet := func(r, s api.Row) bool { return r.Tree == s.Tree && slices.Equal(r.Ways, s.Ways) }
	sameCache := func(h, i api.Cache) bool { return slices.EqualFunc(h, i, sameSet) }
	return w.Memory == x.Memory && slices.EqualFunc(w.Caches, x.Caches, sameCache)
}

func isZero(m api.Machine) bool { return same(m, api.Machine{}) }

func isFull(s api.Slot) bool { return s.Full }

func isDone(m api.Machine) bool {
	for node, l := range m.Progs {
		if m.At[node] != len(l) {
			return false
		}
	}
	return true
}

// model simulates a cycle as chapter 14 says it, of a machine that has no error. The ring is simulated here, and what
// counts as a hit is written out here; only what operations leave in the caches comes from package deed.
func model(m api.Machine) (api.Machine, []api.Event) {
	m = clone(m)
	var l []api.Event
	back := moveRing(m)
	for node := range back {
		if back[node] {
			l = append(l, carryOut(&m, node, true))
		}
	}
	for node := range back {
		isAway := slices.ContainsFunc(m.Ring, func(s api.Slot) bool { return s.Full && s.By == node })
		if back[node] || isAway || m.At[node] == len(m.Progs[node]) {
			continue
		}
		d := m.Progs[node][m.At[node]]
		if hits(letter(m.World, node, d.Addr/4), d.Kind) {
			l = append(l, carryOut(&m, node, false))
		} else {
			fill(&m, node)
		}
	}
	return m, l
}

// moveRing moves the slots in place, and returns for each node whether its slot has returned.
func moveRing(m api.Machine) []bool {
	back := make([]bool, m.Config.Nodes)
	for k := range m.Ring {
		s := &m.Ring[k]
		if s.Full && s.Wait > 0 {
			s.Wait--
			continue
		}
		s.At = after(s.At, m.Config.Nodes)
		if s.Full && s.At == s.By {
			back[s.By] = true
			*s = api.Slot{At: s.At}
		}
	}
	return back
}

// hits reports whether a node that has the line of its operation in this state needs no slot.
func hits(own byte, k api.Kind) bool {
	switch k {
	case api.KLoad:
		return strings.IndexByte("SEOM", own) >= 0
	case api.KPut:
		return strings.IndexByte("ISE", own) >= 0
	}
	return strings.IndexByte("EM", own) >= 0
}

func carryOut(m *api.Machine, node int, by bool) api.Event {
	d := m.Progs[node][m.At[node]]
	m.At[node]++
	x := api.Event{Deed: d, By: by}
	if d.Kind == api.KPut && letter(m.World, node, d.Addr/4) == 'I' {
		return x
	}
	w, done, e := deed.Do(m.Config, m.World, d)
	if e != api.OK {
		panic("the model performs a wrong operation")
	}
	m.World, x.Told = w, done.Told
	return x
}

func fill(m *api.Machine, node int) {
	for k, s := range m.Ring {
		if s.Full || s.At != node {
			continue
		}
		m.Ring[k] = api.Slot{At: node, Full: true, By: node}
		if len(m.Waits) > 0 {
			m.Ring[k].Wait = m.Waits[m.Had%len(m.Waits)]
		}
		m.Had++
		return
	}
}

// expectStep compares Step with the model, and expects that the machine still has no error.
func expectStep(t *testing.T, m api.Machine) (api.Machine, []api.Event) {
	t.Helper()
	want, events := model(m)
	x, l, e := machine.Step(m)
	if !same(x, want) || !slices.Equal(l, events) || e != api.OK {
		t.Fatalf("Step(%+v) = %+v, %+v, %d, want %+v, %+v", m, x, l, e, want, events)
	}
	if e := machine.Check(x); e != api.OK {
		t.Fatalf("after Step(%+v): error %d", m, e)
	}
	return x, l
}

// expectEnd takes the machine to its end, cycle by cycle and with Run, and returns the number of cycles and the events.
func expectEnd(t *testing.T, m api.Machine) (int, []api.Event) {
	t.Helper()
	bound, e := machine.Bound(m)
	if e != api.OK {
		t.Fatalf("Bound(%+v): error %d", m, e)
	}
	x := m
	var all []api.Event
	n := 0
	for ; !isDone(x); n++ {
		if done, e := machine.Ended(x); done || e != api.OK || n == bound {
			t.Fatalf("cycle %d of %d of %+v: Ended = %v, %d", n, bound, m, done, e)
		}
		next, l := expectStep(t, x)
		x, all = next, append(all, l...)
	}
	if done, e := machine.Ended(x); !done || e != api.OK {
		t.Fatalf("Ended(%+v) = %v, %d", x, done, e)
	}
	for _, cycles := range []int{n, max(n, bound), 4000} {
		expectRun(t, m, cycles, x, all)
	}
	expectPlain(t, m, x, all)
	return n, all
}

func expectRun(t *testing.T, m api.Machine, cycles int, want api.Machine, events []api.Event) {
	t.Helper()
	if x, l, e := machine.Run(m, cycles); !same(x, want) || !slices.Equal(l, events) || e != api.OK {
		t.Fatalf("Run(%+v, %d) = %+v, %+v, %d, want %+v, %+v", m, cycles, x, l, e, want, events)
	}
}

// expectPlain expects that the nodes have performed the rest of their programs, and that the operations, in the order
// of the events, tell and leave in plain memory what they have told and left in the machine.
func expectPlain(t *testing.T, before, m api.Machine, l []api.Event) {
	t.Helper()
	var told []api.Told
	var deeds []api.Deed
	nodes := make([][]api.Deed, len(m.Progs))
	for _, x := range l {
		told, deeds = append(told, api.Told{Deed: x.Deed, V: x.Told}), append(deeds, x.Deed)
		nodes[x.Deed.Node] = append(nodes[x.Deed.Node], x.Deed)
	}
	for node, p := range before.Progs {
		if rest := p[before.At[node]:]; !slices.Equal(nodes[node], rest) {
			t.Fatalf("node %d performs %+v, want %+v", node, nodes[node], rest)
		}
	}
	flat, _ := agree.Flat(before.Config, before.World)
	if legal, e := order.Legal(flat, told); !legal || e != api.OK {
		t.Fatalf("%+v: the events %+v are not legal, %d", before, l, e)
	}
	plain, _, _ := atomic.Play(flat, deeds)
	if now, e := agree.Flat(m.Config, m.World); now != plain || e != api.OK {
		t.Fatalf("%+v: the events %+v leave %d, %d, but %d in plain memory", before, l, now, e, plain)
	}
	if slices.ContainsFunc(m.Ring, isFull) {
		t.Fatalf("%+v: the ring is %+v at the end", before, m.Ring)
	}
}

// expectError expects the error from every function that takes a machine, without another result.
func expectError(t *testing.T, m api.Machine, want api.Errno) {
	t.Helper()
	if e := machine.Check(m); e != want {
		t.Errorf("Check(%+v) = %d, want %d", m, e, want)
	}
	expectNoStep(t, m, want)
	for _, cycles := range []int{math.MinInt, -1, 0, 1, 4000, 4001, math.MaxInt} {
		expectNoRun(t, m, cycles, want)
	}
	if done, e := machine.Ended(m); done || e != want {
		t.Errorf("Ended(%+v) = %v, %d, want false, %d", m, done, e, want)
	}
	if n, e := machine.Bound(m); n != 0 || e != want {
		t.Errorf("Bound(%+v) = %d, %d, want 0, %d", m, n, e, want)
	}
}

func expectNoStep(t *testing.T, m api.Machine, want api.Errno) {
	t.Helper()
	if x, l, e := machine.Step(m); !isZero(x) || len(l) != 0 || e != want {
		t.Errorf("Step(%+v) = %+v, %+v, %d, want nothing, %d", m, x, l, e, want)
	}
}

func expectNoRun(t *testing.T, m api.Machine, cycles int, want api.Errno) {
	t.Helper()
	if x, l, e := machine.Run(m, cycles); !isZero(x) || len(l) != 0 || e != want {
		t.Errorf("Run(%+v, %d) = %+v, %+v, %d, want nothing, %d", m, cycles, x, l, e, want)
	}
}
