package tally_test

import (
	"math"
	"slices"
	"testing"

	"ringdove/api"
	"ringdove/tally"
)

var kinds = []api.Kind{api.KLoad, api.KStore, api.KSwap, api.KPut}

// values includes words that differ in one half only, so that a word that is cut off is seen.
var values = []uint64{0, 1, 7, 1 << 31, 1 << 32, 1 << 63, math.MaxUint32, math.MaxUint64}

// with returns a configuration with the number of nodes, and with other numbers that differ.
func with(nodes int) api.Config {
	return api.Config{Nodes: nodes, Sets: 1 << (nodes % 3), Ways: 1 + nodes%4, Banks: 1 + (nodes+1)%4}
}

// filled returns a memory in which all words differ.
func filled() api.Memory {
	var m api.Memory
	for i := range m {
		for k := range m[i] {
			m[i][k] = uint64(i)<<40 + uint64(k) + 100
		}
	}
	return m
}

func someMemories() []api.Memory {
	full := filled()
	for i := range full {
		for k := range full[i] {
			full[i][k] = math.MaxUint64
		}
	}
	return []api.Memory{{}, filled(), full}
}

// flat returns the words of a memory in the order of their addresses.
func flat(m api.Memory) []uint64 {
	var l []uint64
	for _, w := range m {
		l = append(l, w[:]...)
	}
	return l
}

// takes reports whether an operation of the kind may have a Value other than 0.
func takes(k api.Kind) bool { return k == api.KStore || k == api.KSwap }

func operation(node int, k api.Kind, a int, v uint64) api.Deed {
	if !takes(k) {
		v = 0
	}
	return api.Deed{Node: node, Kind: k, Addr: a, Value: v}
}

// event returns the event with index i of a node. Eight of them in a row have each kind with and without By. The result
// that it records is not what the operation returns.
func event(node, i int) api.Event {
	d := operation(node, kinds[i/2%4], (5*i+i/64+node)%64, uint64(i+1)<<33+uint64(node))
	return api.Event{Deed: d, Told: uint64(i)<<32 + uint64(90+node), By: i%2 == 0}
}

// events returns n events, of the nodes in the order in which pick returns them.
func events(n int, pick func(i int) int) []api.Event {
	var l []api.Event
	for i := range n {
		l = append(l, event(pick(i), i+i/8))
	}
	return l
}

// inTurn returns n events of the nodes in turn.
func inTurn(nodes, n int) []api.Event {
	return events(n, func(i int) int { return i % nodes })
}

// orders returns functions that pick nodes in turn, backwards, in blocks, mixed, and one node alone.
func orders(nodes int) []func(i int) int {
	return []func(i int) int{
		func(i int) int { return i % nodes },
		func(i int) int { return nodes - 1 - i%nodes },
		func(i int) int { return i / 9 % nodes },
		func(i int) int { return (i*i + i/3) % nodes },
		func(i int) int { return 0 },
		func(i int) int { return nodes - 1 },
	}
}

func logsOf(nodes int, l []api.Event) [][]api.Told {
	var logs [][]api.Told
	for node := range nodes {
		var log []api.Told
		for _, v := range l {
			if v.Deed.Node == node {
				log = append(log, api.Told{Deed: v.Deed, V: v.Told})
			}
		}
		logs = append(logs, log)
	}
	return logs
}

func countsOf(nodes int, l []api.Event) []api.Count {
	var counts []api.Count
	for node := range nodes {
		number := func(is func(v api.Event) bool) int {
			n := 0
			for _, v := range l {
				if v.Deed.Node == node && is(v) {
					n++
				}
			}
			return n
		}
		counts = append(counts, api.Count{
			Loads:  number(func(v api.Event) bool { return v.Deed.Kind == api.KLoad }),
			Stores: number(func(v api.Event) bool { return v.Deed.Kind == api.KStore }),
			Swaps:  number(func(v api.Event) bool { return v.Deed.Kind == api.KSwap }),
			Puts:   number(func(v api.Event) bool { return v.Deed.Kind == api.KPut }),
			By:     number(func(v api.Event) bool { return v.By }),
		})
	}
	return counts
}

// wordsOf returns the words of the memory after the events. The last event that sets a word counts.
func wordsOf(m api.Memory, l []api.Event) []uint64 {
	words := flat(m)
	for a := range words {
		for _, v := range slices.Backward(l) {
			if v.Deed.Addr == a && takes(v.Deed.Kind) {
				words[a] = v.Deed.Value
				break
			}
		}
	}
	return words
}

func equalLogs(x, y [][]api.Told) bool { return slices.EqualFunc(x, y, slices.Equal[[]api.Told]) }

func expectLogs(t *testing.T, c api.Config, l []api.Event, want [][]api.Told) {
	t.Helper()
	if logs, e := tally.Logs(c, l); !equalLogs(logs, want) || e != api.OK {
		t.Errorf("Logs(%+v, %+v) = %+v, %d, want %+v", c, l, logs, e, want)
	}
}

func expectCounts(t *testing.T, c api.Config, l []api.Event, want []api.Count) {
	t.Helper()
	if counts, e := tally.Counts(c, l); !slices.Equal(counts, want) || e != api.OK {
		t.Errorf("Counts(%+v, %+v) = %+v, %d, want %+v", c, l, counts, e, want)
	}
}

func expectMemory(t *testing.T, m api.Memory, l []api.Event, want []uint64) {
	t.Helper()
	if n, e := tally.Memory(m, l); !slices.Equal(flat(n), want) || e != api.OK {
		t.Errorf("Memory(%v, %+v) = %v, %d, want %v", m, l, n, e, want)
	}
}

// expectAll expects what the models above return.
func expectAll(t *testing.T, c api.Config, m api.Memory, l []api.Event) {
	t.Helper()
	expectLogs(t, c, l, logsOf(c.Nodes, l))
	expectCounts(t, c, l, countsOf(c.Nodes, l))
	expectMemory(t, m, l, wordsOf(m, l))
}
