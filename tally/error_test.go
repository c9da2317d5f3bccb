package tally_test

import (
	"math"
	"slices"
	"testing"

	"ringdove/api"
	"ringdove/tally"
)

// badConfigs has configurations that differ in one number from one that is right, and others. One node is too few.
var badConfigs = []api.Config{
	{},
	{Nodes: 1, Sets: 1, Ways: 1, Banks: 1},
	{Nodes: 0, Sets: 1, Ways: 1, Banks: 1},
	{Nodes: -1, Sets: 1, Ways: 1, Banks: 1},
	{Nodes: 9, Sets: 1, Ways: 1, Banks: 1},
	{Nodes: math.MinInt, Sets: 1, Ways: 1, Banks: 1},
	{Nodes: math.MaxInt, Sets: 1, Ways: 1, Banks: 1},
	{Nodes: 8, Sets: 0, Ways: 1, Banks: 1},
	{Nodes: 8, Sets: 3, Ways: 1, Banks: 1},
	{Nodes: 8, Sets: 8, Ways: 1, Banks: 1},
	{Nodes: 8, Sets: 1, Ways: 0, Banks: 1},
	{Nodes: 8, Sets: 1, Ways: 5, Banks: 1},
	{Nodes: 8, Sets: 1, Ways: 1, Banks: 0},
	{Nodes: 8, Sets: 1, Ways: 1, Banks: 5},
	{Nodes: 8, Sets: 1, Ways: 1, Banks: -1},
	{Nodes: math.MinInt, Sets: -1, Ways: -1, Banks: -1},
}

var tooMany = []int{201, 202, 256, 400, 1000}

// failure is an operation with its error in Logs and Counts, and in Memory, which has no configuration.
type failure struct {
	d      api.Deed
	tally  api.Errno
	memory api.Errno
}

// wrong has operations with each error of atomic.Right, alone and together with later ones.
var wrong = []failure{
	{api.Deed{Node: -1, Kind: api.KLoad}, api.ErrRange, api.ErrRange},
	{api.Deed{Node: 8, Kind: api.KStore, Value: 1}, api.ErrRange, api.ErrRange},
	{api.Deed{Node: math.MinInt, Kind: 9, Addr: 64, Value: 1}, api.ErrRange, api.ErrRange},
	{api.Deed{Node: math.MaxInt, Kind: api.KPut, Value: 1}, api.ErrRange, api.ErrRange},
	{api.Deed{}, api.ErrArg, api.ErrArg},
	{api.Deed{Node: 1, Kind: 5, Addr: -1}, api.ErrArg, api.ErrArg},
	{api.Deed{Node: 1, Kind: -1, Value: 1}, api.ErrArg, api.ErrArg},
	{api.Deed{Kind: 257, Addr: 64, Value: 1}, api.ErrArg, api.ErrArg},
	{api.Deed{Node: 1, Kind: api.KSwap, Addr: 64}, api.ErrRange, api.ErrRange},
	{api.Deed{Kind: api.KPut, Addr: -1, Value: 1}, api.ErrRange, api.ErrRange},
	{api.Deed{Node: 1, Kind: api.KLoad, Addr: math.MaxInt}, api.ErrRange, api.ErrRange},
	{api.Deed{Kind: api.KStore, Addr: math.MinInt, Value: 1}, api.ErrRange, api.ErrRange},
	{api.Deed{Kind: api.KLoad, Value: 1}, api.ErrForm, api.ErrForm},
	{api.Deed{Node: 1, Kind: api.KPut, Addr: 63, Value: math.MaxUint64}, api.ErrForm, api.ErrForm},
}

// strangers has operations of the nodes that atomic.Right permits but the configuration does not have. An error of
// atomic.Right comes first.
func strangers(nodes int) []failure {
	var all []failure
	for node := nodes; node < 8; node++ {
		for _, k := range kinds {
			all = append(all, failure{operation(node, k, 63, 1<<40), api.ErrRange, api.OK})
		}
		all = append(all,
			failure{api.Deed{Node: node}, api.ErrArg, api.ErrArg},
			failure{api.Deed{Node: node, Kind: api.KStore, Addr: 64}, api.ErrRange, api.ErrRange},
			failure{api.Deed{Node: node, Kind: api.KLoad, Value: 1}, api.ErrForm, api.ErrForm},
			failure{api.Deed{Node: node, Kind: api.KPut, Addr: 63, Value: 1}, api.ErrForm, api.ErrForm},
		)
	}
	return all
}

func failures(nodes int) []failure { return append(slices.Clone(wrong), strangers(nodes)...) }

// put replaces an event by one of the operation, with a result, and with By at every other place.
func put(l []api.Event, at int, d api.Deed) {
	l[at] = api.Event{Deed: d, Told: uint64(at) + 5, By: at%2 == 0}
}

func expectNoTally(t *testing.T, c api.Config, l []api.Event, want api.Errno) {
	t.Helper()
	if logs, e := tally.Logs(c, l); len(logs) != 0 || e != want {
		t.Errorf("Logs(%+v, %d events) = %+v, %d, want nothing, %d", c, len(l), logs, e, want)
	}
	if counts, e := tally.Counts(c, l); len(counts) != 0 || e != want {
		t.Errorf("Counts(%+v, %d events) = %+v, %d, want nothing, %d", c, len(l), counts, e, want)
	}
}

// expectMemoryOrError expects the memory after all operations, or, beside an error, zeros: neither the memory as it was
// nor as earlier operations left it.
func expectMemoryOrError(t *testing.T, l []api.Event, want api.Errno) {
	t.Helper()
	for _, m := range someMemories() {
		if want == api.OK {
			expectMemory(t, m, l, wordsOf(m, l))
		} else if n, e := tally.Memory(m, l); n != (api.Memory{}) || e != want {
			t.Errorf("Memory(%v, %d events) = %v, %d, want zeros, %d", m, len(l), n, e, want)
		}
	}
}

// Whatever the events are, the error of the configuration comes first; Memory has no configuration.
func TestP150WrongConfiguration(t *testing.T) {
	for _, c := range badConfigs {
		for _, n := range []int{0, 1, 200, 201} {
			expectNoTally(t, c, inTurn(2, n), api.ErrRange)
			expectNoTally(t, c, make([]api.Event, n), api.ErrRange)
			for _, x := range failures(2) {
				if n > 0 {
					l := inTurn(2, n)
					put(l, 0, x.d)
					expectNoTally(t, c, l, api.ErrRange)
				}
			}
		}
	}
}

func TestP150TooManyEvents(t *testing.T) {
	for _, n := range tooMany {
		for nodes := 2; nodes <= 8; nodes++ {
			for _, pick := range orders(nodes) {
				expectNoTally(t, with(nodes), events(n, pick), api.ErrLarge)
			}
			expectNoTally(t, with(nodes), make([]api.Event, n), api.ErrLarge)
		}
		expectMemoryOrError(t, inTurn(8, n), api.ErrLarge)
		expectMemoryOrError(t, make([]api.Event, n), api.ErrLarge)
	}
}

func TestP150TooManyEventsComesBeforeAWrongEvent(t *testing.T) {
	for nodes := 2; nodes <= 8; nodes++ {
		for _, x := range failures(nodes) {
			for _, n := range tooMany {
				for _, i := range []int{0, 100, 199, 200} {
					l := inTurn(nodes, n)
					put(l, i, x.d)
					expectNoTally(t, with(nodes), l, api.ErrLarge)
					expectMemoryOrError(t, l, api.ErrLarge)
				}
			}
		}
	}
}

// A node that the configuration does not have is no error of Memory.
func TestP150OneWrongEvent(t *testing.T) {
	for nodes := 2; nodes <= 8; nodes++ {
		for _, x := range failures(nodes) {
			for _, n := range []int{1, 2, 5, 200} {
				for i := 0; i < n; i += 1 + i/3 {
					l := inTurn(nodes, n)
					put(l, i, x.d)
					expectNoTally(t, with(nodes), l, x.tally)
					expectMemoryOrError(t, l, x.memory)
				}
				l := inTurn(nodes, n)
				put(l, n-1, x.d)
				expectNoTally(t, with(nodes), l, x.tally)
				expectMemoryOrError(t, l, x.memory)
			}
		}
	}
}

// The events are examined one by one: the node that the configuration does not have, too.
func TestP150TheFirstWrongEventCounts(t *testing.T) {
	for nodes := 2; nodes <= 8; nodes++ {
		for _, x := range failures(nodes) {
			for _, y := range failures(nodes) {
				for _, at := range [][2]int{{0, 1}, {0, 4}, {2, 3}, {1, 4}} {
					l := inTurn(nodes, 5)
					put(l, at[0], x.d)
					put(l, at[1], y.d)
					expectNoTally(t, with(nodes), l, x.tally)
					want := x.memory
					if want == api.OK {
						want = y.memory
					}
					expectMemoryOrError(t, l, want)
				}
			}
		}
	}
}

// Written out: the error of the Deed is that of the event before or behind one whose node is not in the configuration.
func TestP150AWrongEventAndANodeOfNoConfiguration(t *testing.T) {
	c := api.Config{Nodes: 2, Sets: 1, Ways: 1, Banks: 1}
	stranger := api.Event{Deed: api.Deed{Node: 2, Kind: api.KStore, Addr: 63, Value: 9}}
	kind := api.Event{Deed: api.Deed{Node: 1, Kind: 5}}
	value := api.Event{Deed: api.Deed{Node: 0, Kind: api.KPut, Value: 1}}
	for _, x := range []struct {
		l             []api.Event
		tally, memory api.Errno
	}{
		{[]api.Event{stranger}, api.ErrRange, api.OK},
		{[]api.Event{stranger, kind}, api.ErrRange, api.ErrArg},
		{[]api.Event{kind, stranger}, api.ErrArg, api.ErrArg},
		{[]api.Event{stranger, value}, api.ErrRange, api.ErrForm},
		{[]api.Event{value, stranger}, api.ErrForm, api.ErrForm},
		{[]api.Event{kind, value}, api.ErrArg, api.ErrArg},
		{[]api.Event{value, kind}, api.ErrForm, api.ErrForm},
	} {
		expectNoTally(t, c, x.l, x.tally)
		expectMemoryOrError(t, x.l, x.memory)
	}
	want := make([]uint64, 64)
	want[63] = 9
	expectMemory(t, api.Memory{}, []api.Event{stranger}, want)
}

// Every node that atomic.Right permits is in the configuration with 8 nodes.
func TestP150EachNodeInEachConfiguration(t *testing.T) {
	for nodes := 2; nodes <= 8; nodes++ {
		for node := range 8 {
			l := []api.Event{event(node, 1), event(node, 2), event(node, 4)}
			if node < nodes {
				expectAll(t, with(nodes), filled(), l)
			} else {
				expectNoTally(t, with(nodes), l, api.ErrRange)
				expectMemoryOrError(t, l, api.OK)
			}
		}
	}
}
