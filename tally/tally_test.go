package tally_test

import (
	"slices"
	"testing"

	"ringdove/api"
)

// The Counts of a run without events are all zero, and there is one log per node.
func TestP150NoEvents(t *testing.T) {
	for nodes := 2; nodes <= 8; nodes++ {
		for _, l := range [][]api.Event{nil, {}, make([]api.Event, 0, 300)} {
			expectLogs(t, with(nodes), l, make([][]api.Told, nodes))
			expectCounts(t, with(nodes), l, make([]api.Count, nodes))
			for _, m := range someMemories() {
				expectMemory(t, m, l, flat(m))
			}
		}
	}
}

// What is wanted is written out here, because the other tests take it from a model.
func TestP150ThreeNodes(t *testing.T) {
	l := []api.Event{
		{Deed: api.Deed{Node: 2, Kind: api.KStore, Addr: 63, Value: 7}, By: true},
		{Deed: api.Deed{Node: 0, Kind: api.KLoad, Addr: 63}, Told: 7, By: true},
		{Deed: api.Deed{Node: 2, Kind: api.KSwap, Addr: 63, Value: 8}, Told: 7, By: true},
		{Deed: api.Deed{Node: 0, Kind: api.KLoad, Addr: 4}},
		{Deed: api.Deed{Node: 2, Kind: api.KPut, Addr: 63}, By: true},
		{Deed: api.Deed{Node: 2, Kind: api.KPut, Addr: 0}},
		{Deed: api.Deed{Node: 2, Kind: api.KStore, Addr: 0, Value: 9}},
		{Deed: api.Deed{Node: 0, Kind: api.KLoad, Addr: 63}, Told: 8, By: true},
	}
	c := api.Config{Nodes: 3, Sets: 1, Ways: 2, Banks: 1}
	expectLogs(t, c, l, [][]api.Told{
		{{Deed: l[1].Deed, V: 7}, {Deed: l[3].Deed}, {Deed: l[7].Deed, V: 8}},
		{},
		{{Deed: l[0].Deed}, {Deed: l[2].Deed, V: 7}, {Deed: l[4].Deed}, {Deed: l[5].Deed}, {Deed: l[6].Deed}},
	})
	expectCounts(t, c, l, []api.Count{{Loads: 3, By: 2}, {}, {Stores: 2, Swaps: 1, Puts: 2, By: 3}})
	want := make([]uint64, 64)
	want[0], want[63], want[10] = 9, 8, 77
	expectMemory(t, api.Memory{2: {0, 0, 77, 0}, 15: {0, 0, 0, 5}}, l, want)
}

// One event alone, for each node, kind and address: every other number, log and word is as before.
func TestP150OneEvent(t *testing.T) {
	for nodes := 2; nodes <= 8; nodes++ {
		for node := range nodes {
			for i, k := range kinds {
				for a := range 64 {
					for _, by := range []bool{false, true} {
						v := api.Event{Deed: operation(node, k, a, 1<<63+3), Told: uint64(a), By: by}
						logs, counts := make([][]api.Told, nodes), make([]api.Count, nodes)
						logs[node] = []api.Told{{Deed: v.Deed, V: uint64(a)}}
						n := &counts[node]
						*[]*int{&n.Loads, &n.Stores, &n.Swaps, &n.Puts}[i] = 1
						if by {
							n.By = 1
						}
						words := flat(filled())
						if takes(k) {
							words[a] = 1<<63 + 3
						}
						expectLogs(t, with(nodes), []api.Event{v}, logs)
						expectCounts(t, with(nodes), []api.Event{v}, counts)
						expectMemory(t, filled(), []api.Event{v}, words)
					}
				}
			}
		}
	}
}

func TestP150EveryNumberOfEvents(t *testing.T) {
	for nodes := 2; nodes <= 8; nodes++ {
		for _, pick := range orders(nodes) {
			l := events(200, pick)
			for n := range 201 {
				expectAll(t, with(nodes), filled(), l[:n:n])
			}
		}
	}
}

// The limit is that of the length, and not that of the capacity; what is beyond the length is of no account.
func TestP150TwoHundredEventsAndRoomForMore(t *testing.T) {
	for nodes := 2; nodes <= 8; nodes++ {
		l := append(inTurn(nodes, 200), make([]api.Event, 100)...)
		for _, m := range someMemories() {
			expectAll(t, with(nodes), m, l[:200])
		}
	}
}

// Only the number of nodes matters.
func TestP150EachConfiguration(t *testing.T) {
	for nodes := 2; nodes <= 8; nodes++ {
		l := inTurn(nodes, 50)
		for _, sets := range []int{1, 2, 4} {
			for ways := 1; ways <= 4; ways++ {
				for banks := 1; banks <= 4; banks++ {
					expectAll(t, api.Config{Nodes: nodes, Sets: sets, Ways: ways, Banks: banks}, filled(), l)
				}
			}
		}
	}
}

// One node has no events, or all of them.
func TestP150ANodeWithoutEvents(t *testing.T) {
	for nodes := 2; nodes <= 8; nodes++ {
		for node := range nodes {
			isOf := func(v api.Event) bool { return v.Deed.Node == node }
			l := slices.DeleteFunc(inTurn(nodes, 200), isOf)
			expectAll(t, with(nodes), filled(), l)
			logs, counts := logsOf(nodes, l), countsOf(nodes, l)
			if len(logs[node]) != 0 || counts[node] != (api.Count{}) {
				t.Fatalf("node %d has events: %+v", node, l)
			}
			expectAll(t, with(nodes), filled(), events(200, func(int) int { return node }))
		}
	}
}

// Logs has what was recorded, also if no operation of this kind returns it, and Counts and Memory ignore it.
func TestP150RecordedResults(t *testing.T) {
	for _, k := range kinds {
		for _, told := range values {
			for _, m := range someMemories() {
				l := []api.Event{
					{Deed: operation(1, k, 9, 5), Told: told},
					{Deed: operation(0, api.KSwap, 9, 6), Told: told + 1},
					{Deed: operation(1, k, 9, 7), Told: told + 2, By: true},
				}
				expectAll(t, with(2), m, l)
				expectLogs(t, with(2), l, [][]api.Told{
					{{Deed: l[1].Deed, V: told + 1}},
					{{Deed: l[0].Deed, V: told}, {Deed: l[2].Deed, V: told + 2}},
				})
				words := flat(m)
				words[9] = 6
				if takes(k) {
					words[9] = 7
				}
				expectMemory(t, m, l, words)
			}
		}
	}
}

// Equal events are not one event.
func TestP150EqualEvents(t *testing.T) {
	for _, k := range kinds {
		for _, n := range []int{2, 3, 100, 200} {
			v := api.Event{Deed: operation(1, k, 63, 4), Told: 3, By: true}
			expectAll(t, with(3), filled(), slices.Repeat([]api.Event{v}, n))
			w := v
			w.Deed.Node = 2
			expectAll(t, with(3), filled(), slices.Repeat([]api.Event{w, v}, n/2))
		}
	}
}

// The operations of all nodes are performed in the order of the events, and not log by log.
func TestP150MemoryInTheOrderOfEvents(t *testing.T) {
	for a := range 64 {
		for _, k := range []api.Kind{api.KStore, api.KSwap} {
			for node := range 8 {
				for other := range 8 {
					l := []api.Event{
						{Deed: operation(node, k, a, 1)},
						{Deed: operation(other, api.KStore, a, 2)},
						{Deed: operation(other, api.KPut, a, 0)},
						{Deed: operation(node, api.KLoad, a, 0)},
					}
					words := flat(filled())
					words[a] = 2
					expectMemory(t, filled(), l, words)
					l[0], l[1] = l[1], l[0]
					words[a] = 1
					expectMemory(t, filled(), l, words)
				}
			}
		}
	}
}

// Each word, with values that a narrower number does not hold, and a value of 0, which is stored like every other one.
func TestP150MemoryOfEachValue(t *testing.T) {
	for _, v := range values {
		for _, k := range []api.Kind{api.KStore, api.KSwap} {
			for _, m := range someMemories() {
				var l []api.Event
				words := flat(m)
				for a := 0; a < 64; a += 3 {
					l = append(l, api.Event{Deed: operation(a%8, k, a, v), Told: 1})
					words[a] = v
				}
				expectMemory(t, m, l, words)
			}
		}
	}
}
