package machine_test

import (
	"math"
	"slices"
	"testing"

	"ringdove/api"
	"ringdove/machine"
)

var badConfigs = []api.Config{
	{},
	{Nodes: 1, Sets: 1, Ways: 2, Banks: 1},
	{Nodes: 9, Sets: 1, Ways: 2, Banks: 1},
	{Nodes: math.MaxInt, Sets: 1, Ways: 2, Banks: 1},
	{Nodes: 3, Sets: 3, Ways: 2, Banks: 1},
	{Nodes: 3, Sets: 1, Ways: 5, Banks: 1},
	{Nodes: 3, Sets: 1, Ways: 2, Banks: 0},
	{Nodes: math.MinInt, Sets: -1, Ways: -1, Banks: -1},
}

// badNumbers has numbers that are neither waits nor indices of operations.
var badNumbers = []int{math.MinInt, -1000000, -10, -1, 21, 22, 256, 1000001, 1 << 32, math.MaxInt}

func expectNoNew(t *testing.T, c api.Config, slots int, p [][]api.Deed, waits []int, want api.Errno) {
	t.Helper()
	if m, e := machine.New(c, slots, p, waits); !isZero(m) || e != want {
		t.Errorf("New(%+v, %d, %+v, %d) = %+v, %d, want nothing, %d", c, slots, p, waits, m, e, want)
	}
}

func expectNew(t *testing.T, c api.Config, slots int, p [][]api.Deed, waits []int) {
	t.Helper()
	want := api.Machine{Config: c, World: noWorld(c), Ring: empty(c.Nodes, slots), Progs: p, At: make([]int, c.Nodes), Waits: waits}
	m, e := machine.New(c, slots, p, waits)
	if !same(m, want) || e != api.OK {
		t.Errorf("New(%+v, %d, %+v, %d) = %+v, %d, want %+v", c, slots, p, waits, m, e, want)
	}
	if e := machine.Check(m); e != api.OK {
		t.Errorf("Check(%+v) = %d", m, e)
	}
}

func TestP140New(t *testing.T) {
	each(func(nodes, slots int) {
		for n := range 21 {
			equal, mixed, alone := make([]int, nodes), make([]int, nodes), make([]int, nodes)
			var waits []int
			for i := range n {
				waits = append(waits, (7*i+slots)%10)
			}
			for node := range nodes {
				equal[node], mixed[node] = n, (n+7*node+slots)%21
			}
			alone[n%nodes] = n
			for _, lengths := range [][]int{equal, mixed, alone} {
				expectNew(t, with(nodes), slots, programs(lengths...), waits)
			}
		}
	})
}

func TestP140NewEachConfiguration(t *testing.T) {
	for nodes := 2; nodes <= 8; nodes++ {
		for _, sets := range []int{1, 2, 4} {
			for ways := 1; ways <= 4; ways++ {
				for banks := 1; banks <= 4; banks++ {
					c := api.Config{Nodes: nodes, Sets: sets, Ways: ways, Banks: banks}
					expectNew(t, c, 1+(ways+banks)%8, make([][]api.Deed, nodes), nil)
				}
			}
		}
	}
}

func TestP140NewWaits(t *testing.T) {
	for n := range 21 {
		for i := range n {
			for wait := range 10 {
				waits := make([]int, n, 40)
				waits[i] = wait
				expectNew(t, three, 2, programs(1, 2, 3), waits)
			}
			for _, wait := range append([]int{10, 11}, badNumbers...) {
				waits := make([]int, n)
				waits[i] = wait
				expectNoNew(t, three, 2, programs(1, 2, 3), waits, api.ErrRange)
			}
		}
	}
	for _, n := range []int{21, 22, 40, 1000} {
		expectNoNew(t, three, 2, programs(1, 2, 3), make([]int, n), api.ErrRange)
	}
	// The limit is that of the length, and the waits beyond it are none.
	expectNew(t, three, 2, programs(1, 2, 3), append(make([]int, 20), 10, -1)[:20])
}

// wrongPrograms has, for three nodes, programs for each error of prog.Check.
func wrongPrograms() map[api.Errno][][][]api.Deed {
	kind, place, value := programs(3, 3, 3), programs(3, 3, 3), programs(3, 3, 3)
	kind[2][2].Kind, place[0][0].Addr = 5, 64
	value[1][1] = api.Deed{Node: 1, Kind: api.KLoad, Value: 1}
	return map[api.Errno][][][]api.Deed{
		api.ErrForm:  {nil, programs(1, 1), programs(1, 1, 1, 1), value, {nil, nil, program(1, 1)}},
		api.ErrLarge: {programs(21, 0, 0), programs(20, 20, 21)},
		api.ErrArg:   {kind, {{{}}, nil, nil}},
		api.ErrRange: {place, {{{Node: 8, Kind: api.KLoad}}, nil, nil}},
	}
}

// The error of ring.New, which is ErrRange, comes before those of the programs, and the waits come last.
func TestP140NewErrors(t *testing.T) {
	good := programs(2, 2, 2)
	for want, all := range wrongPrograms() {
		for _, p := range all {
			for _, waits := range [][]int{nil, {1, 2}, {10}, {-1}, make([]int, 21)} {
				for _, c := range badConfigs {
					for _, slots := range []int{-1, 0, 1, 8, 9} {
						expectNoNew(t, c, slots, p, waits, api.ErrRange)
						expectNoNew(t, c, slots, good, waits, api.ErrRange)
					}
				}
				for _, slots := range []int{math.MinInt, -1, 0, 9, 10, math.MaxInt} {
					expectNoNew(t, three, slots, p, waits, api.ErrRange)
					expectNoNew(t, three, slots, good, waits, api.ErrRange)
				}
				for slots := 1; slots <= 8; slots++ {
					expectNoNew(t, three, slots, p, waits, want)
				}
			}
		}
	}
}

// A spoiler gives a machine of configuration three an error.
type spoiler struct {
	stage int // the place of the error in the order of Check
	spoil func(m *api.Machine)
	want  api.Errno
}

// worldSpoilers has the errors of agree.Check.
var worldSpoilers = []spoiler{
	{0, func(m *api.Machine) { m.Config = api.Config{} }, api.ErrRange},
	{0, func(m *api.Machine) { m.Config.Nodes = 9 }, api.ErrRange},
	{0, func(m *api.Machine) { m.Config.Banks = 5 }, api.ErrRange},
	{0, func(m *api.Machine) { m.Config.Nodes = 4 }, api.ErrForm},
	{0, func(m *api.Machine) { m.Config.Ways = 1 }, api.ErrForm},
	{0, func(m *api.Machine) { m.World.Caches = nil }, api.ErrForm},
	{0, func(m *api.Machine) { m.World.Caches = m.World.Caches[:2] }, api.ErrForm},
	{0, func(m *api.Machine) { m.World.Caches[2] = nil }, api.ErrForm},
	{0, func(m *api.Machine) { m.World.Caches[1][0].Ways[1].At = 5 }, api.ErrRange},
	{0, func(m *api.Machine) { m.World.Caches[0][0].Ways = []api.Way{{At: api.M}, {At: api.M}} }, api.ErrThere},
	{0, func(m *api.Machine) { give(*m, 9, "IMM") }, api.ErrState},
	{0, func(m *api.Machine) { give(*m, 9, "SSI"); m.World.Memory[9][3]++ }, api.ErrForm},
}

// ringSpoilers has the errors of ring.Check.
var ringSpoilers = []spoiler{
	{1, func(m *api.Machine) { m.Ring = nil }, api.ErrRange},
	{1, func(m *api.Machine) { m.Ring = make(api.Ring, 9) }, api.ErrRange},
	{1, func(m *api.Machine) { m.Ring = api.Ring{{At: 3}} }, api.ErrRange},
	{1, func(m *api.Machine) { m.Ring = api.Ring{{At: 1, Full: true, By: 1, Wait: 10}} }, api.ErrRange},
	{1, func(m *api.Machine) { m.Ring = api.Ring{{At: 1}, {At: 1, By: 1}} }, api.ErrForm},
	{1, func(m *api.Machine) { m.Ring = api.Ring{{Full: true, By: 1}, {At: 2, Full: true, By: 1}} }, api.ErrThere},
}

// otherSpoilers has the other errors. The machine has programs of 1, 2 and 3 operations.
var otherSpoilers = []spoiler{
	{2, func(m *api.Machine) { m.Progs = nil }, api.ErrForm},
	{2, func(m *api.Machine) { m.Progs = m.Progs[:2] }, api.ErrForm},
	{2, func(m *api.Machine) { m.Progs = programs(1, 2, 3, 4) }, api.ErrForm},
	{2, func(m *api.Machine) { m.Progs = programs(1, 21, 3) }, api.ErrLarge},
	{2, func(m *api.Machine) { m.Progs[0][0].Kind = 0 }, api.ErrArg},
	{2, func(m *api.Machine) { m.Progs[2][2].Addr = 64 }, api.ErrRange},
	{2, func(m *api.Machine) { m.Progs[1][0].Node = 0 }, api.ErrForm},
	{3, func(m *api.Machine) { m.At = nil }, api.ErrForm},
	{3, func(m *api.Machine) { m.At = []int{0, 0} }, api.ErrForm},
	{3, func(m *api.Machine) { m.At = []int{0, 0, 0, 0} }, api.ErrForm},
	{3, func(m *api.Machine) { m.At = []int{-1, 9} }, api.ErrForm},
	{3, func(m *api.Machine) { m.At = []int{-1, 9, 4, 0} }, api.ErrForm},
	{4, func(m *api.Machine) { m.At = []int{2, 0, 0} }, api.ErrRange},
	{4, func(m *api.Machine) { m.At = []int{1, 2, 4} }, api.ErrRange},
	{4, func(m *api.Machine) { m.At = []int{0, -1, 0} }, api.ErrRange},
	{5, func(m *api.Machine) { m.Waits = make([]int, 21) }, api.ErrRange},
	{5, func(m *api.Machine) { m.Waits = []int{9, 10} }, api.ErrRange},
	{5, func(m *api.Machine) { m.Waits = []int{-1} }, api.ErrRange},
	{5, func(m *api.Machine) { m.Had = -1 }, api.ErrRange},
	{5, func(m *api.Machine) { m.Had = 1000001 }, api.ErrRange},
	{6, func(m *api.Machine) { m.At[1] = 2 }, api.ErrForm},
	{6, func(m *api.Machine) { m.At[2], m.Ring[3] = 3, api.Slot{Full: true, By: 2, Wait: 1} }, api.ErrForm},
}

// begun returns a machine of configuration three in which some operations have been performed.
func begun(t *testing.T) api.Machine {
	t.Helper()
	m := build(t, three, 4, programs(1, 2, 3), 4, 0, 9)
	m.At, m.Had = []int{0, 1, 2}, 7
	m.Ring[0] = api.Slot{At: 2, Full: true, By: 1, Wait: 3}
	give(m, 3, "OSI")
	return m
}

func TestP140OneError(t *testing.T) {
	if e := machine.Check(begun(t)); e != api.OK {
		t.Fatalf("error %d without a spoiler", e)
	}
	for _, x := range slices.Concat(worldSpoilers, ringSpoilers, otherSpoilers) {
		m := begun(t)
		x.spoil(&m)
		expectError(t, m, x.want)
	}
}

// The later error is made first, so that it does not undo the earlier one.
func TestP140TheFirstErrorCounts(t *testing.T) {
	all := slices.Concat(worldSpoilers, ringSpoilers, otherSpoilers)
	for _, x := range all {
		for _, y := range all {
			if y.stage > x.stage {
				m := begun(t)
				y.spoil(&m)
				x.spoil(&m)
				expectError(t, m, x.want)
			}
		}
	}
}

// Everything is wrong at first, and then one part after another is repaired.
func TestP140EveryLaterError(t *testing.T) {
	m := build(t, three, 1, programs(1, 2, 3))
	give(m, 0, "MMI")
	m.Ring, m.Progs, m.At, m.Waits, m.Had = api.Ring{{At: 1, By: 1}}, programs(21, 0, 2), []int{9}, []int{77}, -5
	for _, x := range []struct {
		before api.Errno
		repair func()
	}{
		{api.ErrState, func() { m.World = noWorld(three) }},
		{api.ErrForm, func() { m.Ring[0].Full = true }},
		{api.ErrLarge, func() { m.Progs = programs(1, 0, 2) }},
		{api.ErrForm, func() { m.At = []int{2, 0, 0} }},
		{api.ErrRange, func() { m.At = []int{1, 0, 2} }},
		{api.ErrRange, func() { m.Waits = nil }},
		{api.ErrRange, func() { m.Had = 0 }},
		{api.ErrForm, func() { m.Ring[0].By = 2 }},
		{api.ErrForm, func() { m.Ring[0].By = 0 }},
		{api.ErrForm, func() { m.At[0] = 0 }},
	} {
		expectError(t, m, x.before)
		x.repair()
	}
	if e := machine.Check(m); e != api.OK {
		t.Errorf("Check(%+v) = %d", m, e)
	}
}

func TestP140EachAt(t *testing.T) {
	for nodes := 2; nodes <= 8; nodes++ {
		for node := range nodes {
			for n := range 21 {
				lengths := slices.Repeat([]int{2}, nodes)
				lengths[node] = n
				m := build(t, with(nodes), 1, programs(lengths...))
				for at := range n + 1 {
					m.At[node] = at
					if e := machine.Check(m); e != api.OK {
						t.Errorf("%d nodes: Check with %d of %d operations of node %d = %d", nodes, at, n, node, e)
					}
				}
				m.At[node] = n + 1
				expectError(t, m, api.ErrRange)
			}
			for _, at := range badNumbers {
				m := build(t, with(nodes), 1, programs(slices.Repeat([]int{20}, nodes)...))
				m.At[node] = at
				expectError(t, m, api.ErrRange)
			}
		}
	}
}

// The number of elements counts, and not the capacity; what is beyond the length is of no account.
func TestP140NumberOfAt(t *testing.T) {
	for nodes := 2; nodes <= 8; nodes++ {
		m := build(t, with(nodes), 1, programs(slices.Repeat([]int{3}, nodes)...))
		for n := range 12 {
			m.At = slices.Repeat([]int{1}, n)
			if n != nodes {
				expectError(t, m, api.ErrForm)
			}
		}
		for _, at := range [][]int{nil, make([]int, 0, nodes), make([]int, nodes-1, nodes)} {
			m.At = at
			expectError(t, m, api.ErrForm)
		}
		m.At = append(make([]int, nodes), -1, 99)[:nodes]
		if e := machine.Check(m); e != api.OK {
			t.Errorf("%d nodes: error %d", nodes, e)
		}
	}
}

func TestP140EachHad(t *testing.T) {
	m := build(t, three, 2, programs(1, 2, 3), 1, 2)
	for _, had := range []int{0, 1, 2, 3, 20, 160, 4000, 999991, 999992, 999993, 999999, 1000000} {
		m.Had = had
		if e := machine.Check(m); e != api.OK {
			t.Errorf("Check with Had %d = %d", had, e)
		}
	}
	for _, had := range []int{math.MinInt, -1000000, -2, -1, 1000001, 1000002, 1 << 32, math.MaxInt} {
		m.Had = had
		expectError(t, m, api.ErrRange)
	}
}

func TestP140WaitsOfAMachine(t *testing.T) {
	for n := range 21 {
		for i := range n {
			m := build(t, three, 2, programs(1, 2, 3), make([]int, n)...)
			for wait := range 10 {
				m.Waits[i] = wait
				if e := machine.Check(m); e != api.OK {
					t.Errorf("wait %d of %d is %d: error %d", i, n, wait, e)
				}
			}
			for _, wait := range append([]int{10, 11}, badNumbers...) {
				m.Waits[i] = wait
				expectError(t, m, api.ErrRange)
			}
		}
	}
	m := build(t, three, 2, programs(1, 2, 3))
	for _, n := range []int{21, 22, 100} {
		m.Waits = make([]int, n)
		expectError(t, m, api.ErrRange)
	}
	m.Waits = append(make([]int, 20), 10, -1)[:20]
	if e := machine.Check(m); e != api.OK {
		t.Errorf("20 waits and more beyond the length: error %d", e)
	}
}

// A slot may be filled by a node with one more operation, and not by one whose program is finished.
func TestP140SlotOfAFinishedProgram(t *testing.T) {
	each(func(nodes, slots int) {
		for node := range nodes {
			for _, n := range []int{0, 1, 2, 20} {
				lengths := slices.Repeat([]int{3}, nodes)
				lengths[node] = n
				m := build(t, with(nodes), slots, programs(lengths...))
				m.At[node] = n
				m.Ring[(node+n)%slots] = api.Slot{At: (node + n) % nodes, Full: true, By: node, Wait: n % 10}
				expectError(t, m, api.ErrForm)
				if n > 0 {
					m.At[node] = n - 1
					expectStep(t, m)
				}
			}
		}
	})
}

// The By of an empty slot is 0, but node 0 has not filled it.
func TestP140EmptySlotsAndAFinishedNode0(t *testing.T) {
	for slots := 1; slots <= 8; slots++ {
		m := build(t, three, slots, programs(0, 2, 2))
		expectEnd(t, m)
		m = build(t, three, slots, programs(0, 0, 0))
		expectEnd(t, m)
	}
}
