package order_test

import (
	"math"
	"slices"
	"testing"
	"time"

	"ringdove/api"
	"ringdove/order"
)

// flat returns the words of a memory in the order of their addresses.
func flat(m api.Memory) []uint64 {
	var words []uint64
	for _, w := range m {
		words = append(words, w[:]...)
	}
	return words
}

// tell performs an operation on the words, without package atomic, and returns its result.
func tell(words []uint64, d api.Deed) uint64 {
	old := words[d.Addr]
	switch d.Kind {
	case api.KLoad:
		return old
	case api.KStore:
		words[d.Addr] = d.Value
	case api.KSwap:
		words[d.Addr] = d.Value
		return old
	}
	return 0
}

// smallest returns the smallest of all legal orders. It goes through them all, last log first, and remembers nothing.
func smallest(words []uint64, logs [][]api.Told) ([]int, bool) {
	ended := true
	var best []int
	found := false
	for i := len(logs) - 1; i >= 0; i-- {
		if len(logs[i]) == 0 {
			continue
		}
		ended = false
		after := slices.Clone(words)
		if tell(after, logs[i][0].Deed) != logs[i][0].V {
			continue
		}
		rest := slices.Clone(logs)
		rest[i] = rest[i][1:]
		if picks, is := smallest(after, rest); is {
			picks = append([]int{i}, picks...)
			if !found || slices.Compare(picks, best) < 0 {
				best, found = picks, true
			}
		}
	}
	return best, found || ended
}

func expectExplain(t *testing.T, m api.Memory, logs [][]api.Told, want []int, is bool) {
	t.Helper()
	if picks, found, e := order.Explain(m, logs); !slices.Equal(picks, want) || found != is || e != api.OK {
		t.Errorf("Explain(%v, %+v) = %d, %v, %d, want %d, %v", m, logs, picks, found, e, want, is)
	}
}

func expectExplainError(t *testing.T, logs [][]api.Told, want api.Errno) {
	t.Helper()
	if picks, is, e := order.Explain(filled(), logs); len(picks) != 0 || is || e != want {
		t.Errorf("Explain(%+v) = %d, %v, %d, want nothing, %d", logs, picks, is, e, want)
	}
}

// expectSmallest expects what the model finds.
func expectSmallest(t *testing.T, m api.Memory, logs [][]api.Told) {
	t.Helper()
	want, is := smallest(flat(m), logs)
	expectExplain(t, m, logs, want, is)
}

// The orders are written out here, because the other tests search for them.
func TestP131Explain(t *testing.T) {
	for _, x := range []struct {
		logs [][]api.Told
		want []int
		is   bool
	}{
		// Each node stores to its own word and then loads the other one's.
		{[][]api.Told{{store(0, 0, 1), load(0, 4, 0)}, {store(1, 4, 1), load(1, 0, 0)}}, nil, false},
		{[][]api.Told{{store(0, 0, 1), load(0, 4, 1)}, {store(1, 4, 1), load(1, 0, 0)}}, []int{1, 1, 0, 0}, true},
		{[][]api.Told{{store(0, 0, 1), load(0, 4, 0)}, {store(1, 4, 1), load(1, 0, 1)}}, []int{0, 0, 1, 1}, true},
		{[][]api.Told{{store(0, 0, 1), load(0, 4, 1)}, {store(1, 4, 1), load(1, 0, 1)}}, []int{0, 1, 0, 1}, true},
		// A node that has seen the flag has to see the data.
		{[][]api.Told{{store(0, 0, 7), store(0, 4, 1)}, {load(1, 4, 1), load(1, 0, 0)}}, nil, false},
		{[][]api.Told{{store(0, 0, 7), store(0, 4, 1)}, {load(1, 4, 1), load(1, 0, 7)}}, []int{0, 0, 1, 1}, true},
		{[][]api.Told{{store(0, 0, 7), store(0, 4, 1)}, {load(1, 4, 0), load(1, 0, 7)}}, []int{0, 1, 0, 1}, true},
		{[][]api.Told{{store(0, 0, 7), store(0, 4, 1)}, {load(1, 4, 0), load(1, 0, 0)}}, []int{1, 1, 0, 0}, true},
		// Two nodes see the stores of two others in different orders.
		{[][]api.Told{{store(0, 0, 1)}, {store(1, 4, 1)}, {load(2, 0, 1), load(2, 4, 0)}, {load(3, 4, 1), load(3, 0, 0)}}, nil, false},
		{[][]api.Told{{store(0, 0, 1)}, {store(1, 4, 1)}, {load(2, 0, 1), load(2, 4, 0)}, {load(3, 4, 1), load(3, 0, 1)}}, []int{0, 2, 2, 1, 3, 3}, true},
		{[][]api.Told{{load(0, 9, 1), load(0, 9, 2)}, {load(1, 9, 2), load(1, 9, 1)}, {store(2, 9, 1)}, {store(3, 9, 2)}}, nil, false},
		// One of two swaps is the first one.
		{[][]api.Told{{swap(0, 3, 1, 0)}, {swap(1, 3, 1, 0)}}, nil, false},
		{[][]api.Told{{swap(0, 3, 1, 0)}, {swap(1, 3, 1, 1)}}, []int{0, 1}, true},
		{[][]api.Told{{swap(0, 3, 1, 1)}, {swap(1, 3, 1, 0)}}, []int{1, 0}, true},
		{[][]api.Told{{swap(0, 3, 5, 6)}, {swap(1, 3, 6, 7)}, {swap(2, 3, 7, 0)}}, []int{2, 1, 0}, true},
		// What an operation tells without a load is 0.
		{[][]api.Told{{put(0, 3)}, {store(1, 3, 4), put(1, 3)}}, []int{0, 1, 1}, true},
		{[][]api.Told{{{Deed: put(0, 3).Deed, V: 4}}, {store(1, 3, 4)}}, nil, false},
		{[][]api.Told{{{Deed: store(0, 3, 4).Deed, V: 4}}, {store(1, 3, 4)}}, nil, false},
		{[][]api.Told{{load(0, 3, 5)}, {store(1, 3, 4)}}, nil, false},
		{[][]api.Told{{load(0, 3, 4), load(0, 3, 0)}, {store(1, 3, 4)}}, nil, false},
		{[][]api.Told{{load(0, 3, 0), load(0, 3, 4)}, {store(1, 3, 4)}}, []int{0, 1, 0}, true},
	} {
		expectExplain(t, api.Memory{}, x.logs, x.want, x.is)
	}
}

// Without an observation the order is empty, and explains the logs.
func TestP131NothingObserved(t *testing.T) {
	for _, m := range []api.Memory{{}, filled()} {
		expectExplain(t, m, nil, nil, true)
		for n := range 9 {
			expectExplain(t, m, make([][]api.Told, n), nil, true)
			expectExplain(t, m, slices.Repeat([][]api.Told{{}}, n), nil, true)
			expectExplain(t, m, slices.Repeat([][]api.Told{make([]api.Told, 0, 20)}, n), nil, true)
		}
	}
}

// few returns the observations of two words and two values that the tests combine.
func few(node int) []api.Told {
	return []api.Told{
		load(node, 0, 0), load(node, 0, 1), load(node, 63, 0), load(node, 63, 1),
		store(node, 0, 0), store(node, 0, 1), store(node, 63, 1),
		swap(node, 0, 1, 0), swap(node, 0, 0, 1), swap(node, 63, 1, 0),
		put(node, 0), {Deed: put(node, 0).Deed, V: 1},
	}
}

// eachLogs calls f for all logs of the lengths with observations from few.
func eachLogs(lengths []int, f func(logs [][]api.Told)) {
	logs := make([][]api.Told, len(lengths))
	total := 0
	for i, n := range lengths {
		logs[i] = make([]api.Told, n)
		total += n
	}
	combinations := 1
	for range total {
		combinations *= len(few(0))
	}
	for k := range combinations {
		for i, l := range logs {
			for j := range l {
				choice := few(i)
				l[j] = choice[k%len(choice)]
				k /= len(choice)
			}
		}
		f(logs)
	}
}

func TestP131AllShortLogs(t *testing.T) {
	for _, lengths := range [][]int{{1}, {2}, {3}, {1, 1}, {0, 1, 1}, {2, 1}, {1, 2}, {1, 1, 1}, {1, 0, 2}, {2, 2}, {1, 1, 2}, {3, 1}} {
		eachLogs(lengths, func(logs [][]api.Told) {
			expectSmallest(t, api.Memory{}, logs)
		})
	}
}

// numbers returns a function that returns numbers from 0 to n - 1 in a fixed order without an evident pattern.
func numbers(seed uint64) func(n int) int {
	return func(n int) int {
		seed = seed*6364136223846793005 + 1442695040888963407
		return int(seed >> 33 % uint64(n))
	}
}

// spread returns logs of the lengths with operations at the addresses. They are observed in an order that is also returned.
func spread(m api.Memory, lengths, addresses []int, number func(n int) int) ([][]api.Told, []int) {
	words := flat(m)
	logs := make([][]api.Told, len(lengths))
	var picks []int
	for i, n := range lengths {
		picks = append(picks, slices.Repeat([]int{i}, n)...)
	}
	for i := range picks {
		k := i + number(len(picks)-i)
		picks[i], picks[k] = picks[k], picks[i]
	}
	for _, i := range picks {
		a := addresses[number(len(addresses))]
		v := values[number(len(values))]
		d := []api.Told{load(i, a, 0), load(i, a, 0), store(i, a, v), swap(i, a, v, 0), put(i, a)}[number(5)].Deed
		logs[i] = append(logs[i], api.Told{Deed: d, V: tell(words, d)})
	}
	return logs, picks
}

// Longer logs that an order explains, and the same with one result changed, which orders explain or not.
func TestP131TheSmallestOrder(t *testing.T) {
	number := numbers(1)
	shapes := [][]int{{3, 3}, {4, 0, 4}, {2, 2, 2}, {1, 3, 1, 2}, {1, 1, 1, 1, 1, 1}, {8, 1}, {2, 1, 2, 1}, {0, 2, 0, 0, 1, 3, 0, 1}}
	explained, other := 0, 0
	for i := range 1600 {
		m := []api.Memory{{}, filled()}[i%2]
		logs, picks := spread(m, shapes[i/2%len(shapes)], [][]int{{7}, {0, 63}, {4, 5, 60}}[i%3], number)
		expectSmallest(t, m, logs)
		if _, is, _ := order.Explain(m, logs); !is {
			t.Errorf("Explain(%v, %+v) finds no order, want one like %d", m, logs, picks)
		}
		l := logs[picks[0]]
		l[number(len(l))].V ^= values[1+number(len(values)-1)]
		expectSmallest(t, m, logs)
		if _, is, _ := order.Explain(m, logs); is {
			explained++
		} else {
			other++
		}
	}
	if explained < 30 || other < 30 {
		t.Errorf("of the changed logs %d are explained and %d are not", explained, other)
	}
}

// expectOrder expects an order of whole logs that is legal, and not larger than the one in which they were observed.
func expectOrder(t *testing.T, m api.Memory, logs [][]api.Told, observed []int) {
	t.Helper()
	picks, is, e := order.Explain(m, logs)
	if !is || e != api.OK || slices.Compare(picks, observed) > 0 {
		t.Errorf("Explain(%v, %+v) = %d, %v, %d, want an order not after %d", m, logs, picks, is, e, observed)
		return
	}
	at := make([]int, len(logs))
	var l []api.Told
	for _, i := range picks {
		if i < 0 || i >= len(logs) || at[i] == len(logs[i]) {
			t.Errorf("Explain(%v, %+v) = %d, which does not use the logs", m, logs, picks)
			return
		}
		l = append(l, logs[i][at[i]])
		at[i]++
	}
	for i, n := range at {
		if n != len(logs[i]) {
			t.Errorf("Explain(%v, %+v) = %d, which uses %d of log %d", m, logs, picks, n, i)
		}
	}
	expectLegal(t, m, l, true)
}

// Up to 12 observations in up to 8 logs.
func TestP131LogsThatAnOrderGives(t *testing.T) {
	number := numbers(2)
	for i := range 3000 {
		lengths := make([]int, 1+number(8))
		for range i % 13 {
			lengths[number(len(lengths))]++
		}
		m := []api.Memory{{}, filled()}[i%2]
		logs, picks := spread(m, lengths, [][]int{{63}, {0, 1}, {0, 31, 32, 62}}[i%3], number)
		expectOrder(t, m, logs, picks)
	}
}

// The first of the words that are observed are those of the memory.
func TestP131EachWordOfTheMemory(t *testing.T) {
	m := filled()
	words := flat(m)
	for a, v := range words {
		logs := [][]api.Told{{load(0, a, 5)}, {swap(1, a, 5, v)}, {load(2, a, v)}}
		expectExplain(t, m, logs, []int{2, 1, 0}, true)
		logs[2][0].V++
		expectExplain(t, m, logs, nil, false)
		expectExplain(t, api.Memory{}, logs, nil, false)
	}
}

// Where the same observations have been used, another memory may lead on: the stores of a are to be in the other order than the logs.
func TestP131AnotherMemoryAfterTheSameObservations(t *testing.T) {
	for a := range 64 {
		b, c := (a+1)%64, (a+32)%64
		logs := [][]api.Told{
			{store(0, a, 1), store(0, b, 1)},
			{store(1, a, 2), store(1, c, 1)},
			{load(2, b, 1), load(2, c, 1), load(2, a, 1)},
		}
		expectExplain(t, api.Memory{}, logs, []int{1, 0, 0, 1, 2, 2, 2}, true)
		logs[2][2].V = 2
		expectExplain(t, api.Memory{}, logs, []int{0, 0, 1, 1, 2, 2, 2}, true)
		logs[2][2].V = 0
		expectExplain(t, api.Memory{}, logs, nil, false)
	}
}

// Where the memory is the same, other observations may have been used.
func TestP131OtherObservationsWithTheSameMemory(t *testing.T) {
	for a := range 64 {
		for n := range 4 {
			logs := make([][]api.Told, 4)
			for i := range logs {
				logs[i] = []api.Told{load(i, a, 0)}
			}
			logs[n] = []api.Told{load(n, a, 0), store(n, a, 1), store(n, a, 0), store(n, a, 1), load(n, a, 1)}
			want := []int{0, 1, 2, 3, n, n, n, n}
			if n < 3 {
				// After its store of 0, the log n goes on where the others have ended.
				want = slices.Concat(want[:n], []int{n, n, n}, want[n+1:4], []int{n, n})
			}
			expectExplain(t, api.Memory{}, logs, want, true)
			logs[n][4].V = 0
			expectExplain(t, api.Memory{}, logs, nil, false)
		}
	}
}

// All orders explain these logs, and the smallest one takes the logs one after the other.
func TestP131AllOrders(t *testing.T) {
	for n := 1; n <= 8; n++ {
		logs := make([][]api.Told, n)
		var want []int
		for i := range 12 {
			logs[i%n] = append(logs[i%n], store(i%8, i, 1))
		}
		for i, l := range logs {
			want = append(want, slices.Repeat([]int{i}, len(l))...)
		}
		expectExplain(t, filled(), logs, want, true)
	}
}

// Only the largest order explains these logs: each observation loads what the one before it has stored.
func TestP131OneOrder(t *testing.T) {
	for n := 1; n <= 8; n++ {
		logs := make([][]api.Told, n)
		var want []int
		for i := range 12 {
			k := n - 1 - i%n
			logs[k] = append(logs[k], swap(i%8, 33, uint64(i+1), uint64(i)))
			want = append(want, k)
		}
		expectExplain(t, api.Memory{}, logs, want, true)
		logs[n-1][0].V = 50
		expectExplain(t, api.Memory{}, logs, nil, false)
	}
}

// Empty logs count among the indices, and add nothing to the order.
func TestP131EmptyLogs(t *testing.T) {
	a, b := []api.Told{load(0, 8, 1), store(0, 8, 2)}, []api.Told{store(1, 8, 1), load(1, 8, 2)}
	for i := range 8 {
		for k := range 8 {
			if i == k {
				continue
			}
			for n := max(i, k) + 1; n <= 8; n++ {
				logs := make([][]api.Told, n)
				logs[i], logs[k] = a, b
				expectExplain(t, api.Memory{}, logs, []int{k, i, i, k}, true)
				logs[k] = b[1:]
				expectExplain(t, api.Memory{}, logs, nil, false)
				logs[k] = nil
				expectExplain(t, api.Memory{8 / 4: {1}}, logs, []int{i, i}, true)
			}
		}
	}
}

// The nodes of the operations are of no account: a log is known by its index.
func TestP131NodesOfOtherLogs(t *testing.T) {
	for a := range 8 {
		for b := range 8 {
			logs := [][]api.Told{{load(a, 1, 1), load(b, 2, 0)}, {store(b, 1, 1), load(a, 1, 1), store(b, 2, 1)}, {load(a, 2, 1), store(a, 2, 0)}}
			expectExplain(t, api.Memory{}, logs, []int{1, 0, 0, 1, 1, 2, 2}, true)
			logs[1], logs[2] = logs[2], logs[1]
			expectExplain(t, api.Memory{}, logs, []int{2, 0, 0, 2, 2, 1, 1}, true)
			logs[0][1].V = 5
			expectExplain(t, api.Memory{}, logs, nil, false)
		}
	}
}

// What follows the length of a log, or of the logs, is not there.
func TestP131CapacityBeyondTheLength(t *testing.T) {
	logs := make([][]api.Told, 20)
	for i := range logs {
		logs[i] = append(slices.Repeat([]api.Told{load(0, 0, 0)}, 3), make([]api.Told, 20)...)[:1]
	}
	expectExplain(t, api.Memory{}, logs[:8], []int{0, 1, 2, 3, 4, 5, 6, 7}, true)
	expectExplain(t, api.Memory{}, logs[:0], nil, true)
	logs[1] = logs[1][:3]
	expectExplain(t, api.Memory{}, logs[:2], []int{0, 1, 1, 1}, true)
}

func TestP131TooManyLogs(t *testing.T) {
	for _, n := range []int{9, 10, 12, 13, 100} {
		expectExplainError(t, make([][]api.Told, n), api.ErrLarge)
		expectExplainError(t, slices.Repeat([][]api.Told{{store(0, 0, 1)}}, n), api.ErrLarge)
		one := make([][]api.Told, n)
		one[n-1] = []api.Told{store(0, 0, 1)}
		expectExplainError(t, one, api.ErrLarge)
		// The error of an operation comes later.
		for _, x := range wrong() {
			one[0] = []api.Told{x.o}
			expectExplainError(t, one, api.ErrLarge)
		}
	}
}

// The limit is that of all logs together.
func TestP131TooManyObservations(t *testing.T) {
	for n := 1; n <= 8; n++ {
		for _, long := range []int{0, n / 2, n - 1} {
			for _, total := range []int{11, 12, 13, 14, 24, 200} {
				logs := make([][]api.Told, n)
				for i := range min(total, 8) {
					logs[i%n] = append(logs[i%n], store(1, i, 1))
				}
				for range total - 8 {
					logs[long] = append(logs[long], put(2, 0))
				}
				if total <= 12 {
					picks, is, e := order.Explain(api.Memory{}, logs)
					if len(picks) != total || !is || e != api.OK {
						t.Errorf("Explain(%+v) = %d, %v, %d, want an order", logs, picks, is, e)
					}
					continue
				}
				expectExplainError(t, logs, api.ErrLarge)
				for _, x := range wrong() {
					logs[0][0] = x.o
					expectExplainError(t, logs, api.ErrLarge)
				}
			}
		}
	}
	expectExplainError(t, [][]api.Told{make([]api.Told, 13)}, api.ErrLarge)
	expectExplainError(t, [][]api.Told{make([]api.Told, 12), nil, make([]api.Told, 1)}, api.ErrLarge)
}

// twelve returns logs of three nodes with 12 observations, of which an order explains the first ones or none.
func twelve(first uint64) [][]api.Told {
	logs := make([][]api.Told, 3)
	for i := range 12 {
		logs[i%3] = append(logs[i%3], load(i%3, i, first))
	}
	return logs
}

// The error of an operation comes before the answer that no order explains the logs.
func TestP131OneWrongOperation(t *testing.T) {
	for _, x := range wrong() {
		for i := range 3 {
			for k := range 4 {
				for _, v := range []uint64{0, 9} {
					logs := twelve(v)
					logs[i][k] = x.o
					expectExplainError(t, logs, x.e)
				}
			}
			alone := make([][]api.Told, 8)
			alone[i] = []api.Told{x.o}
			expectExplainError(t, alone, x.e)
		}
	}
}

// Of two wrong operations the first one counts: in the earlier log, or earlier in the same log.
func TestP131TheFirstWrongOperationCounts(t *testing.T) {
	type spot struct{ log, k int }
	spots := []spot{{0, 0}, {0, 1}, {0, 3}, {1, 0}, {1, 2}, {2, 0}, {2, 3}}
	for i, a := range spots {
		for _, b := range spots[i+1:] {
			for _, x := range wrong() {
				for _, y := range wrong() {
					logs := twelve(0)
					logs[a.log][a.k], logs[b.log][b.k] = x.o, y.o
					expectExplainError(t, logs, x.e)
				}
			}
		}
	}
}

// alike returns logs of three or fewer equal operations and, at the end of the last one, a load that no order explains.
func alike(d api.Told, n int) [][]api.Told {
	logs := make([][]api.Told, n)
	for i := range 11 {
		logs[i%n] = append(logs[i%n], d)
	}
	logs[n-1] = append(logs[n-1], load(0, 5, 99))
	return logs
}

// A search that does not remember what leads nowhere tries millions of orders of each of these logs.
func TestP131LongLogsOfTheSameOperations(t *testing.T) {
	start := time.Now()
	for i := range 8 {
		for _, d := range []api.Told{load(i, 5, 0), store(i, 5, 0), swap(i, 5, 0, 0), put(i, 5), store(i, 6, 7), load(i, 60, 0)} {
			for n := 5; n <= 8; n++ {
				expectExplain(t, api.Memory{}, alike(d, n), nil, false)
				if time.Since(start) > time.Minute {
					t.Fatal("the search takes too long")
				}
			}
		}
	}
}

// The logs store different values at one and at several addresses, so that there are many memories.
func TestP131LongLogsOfDifferentStores(t *testing.T) {
	start := time.Now()
	for addresses := 1; addresses <= 11; addresses++ {
		for n := 5; n <= 8; n++ {
			logs := alike(api.Told{}, n)
			for i := range 11 {
				logs[i%n][i/n] = store(i%8, 5+i%addresses, uint64(i+1))
			}
			expectExplain(t, api.Memory{}, logs, nil, false)
			if time.Since(start) > 2*time.Minute {
				t.Fatal("the search takes too long")
			}
		}
	}
}

// Logs with room beyond their lengths, which an order explains or not, and with each kind of error.
func TestP131WhatWasPassedInIsUnchanged(t *testing.T) {
	m := filled()
	before := m
	firsts := []api.Told{load(0, 0, m[0][0]), store(1, 0, 7), load(2, 63, 1)}
	for _, x := range wrong() {
		firsts = append(firsts, x.o)
	}
	for _, o := range firsts {
		for _, n := range []int{1, 2, 3, 7, 8, 9} {
			logs := make([][]api.Told, 12)
			for i := range logs {
				logs[i] = append([]api.Told{swap(i%8, i, 4, m[i/4][i%4])}, put(1, 1), load(0, 0, 3))[:1]
			}
			logs[n-1] = append([]api.Told{o}, logs[n-1]...)
			was := copied(logs)
			order.Explain(m, logs[:n])
			if now := copied(logs); !slices.EqualFunc(now, was, slices.Equal[[]api.Told]) || m != before {
				t.Errorf("memory and logs are %v, %+v, were %v, %+v", m, now, before, was)
			}
		}
	}
}

// Every call has the same result, in memory of its own.
func TestP131ResultsAreNewAndEqual(t *testing.T) {
	number := numbers(3)
	for range 40 {
		m := filled()
		logs, _ := spread(m, []int{2, 3, 0, 1, 4, 2}, []int{0, 17}, number)
		first, _, _ := order.Explain(m, logs)
		want := slices.Clone(first)
		for range 10 {
			again, is, e := order.Explain(m, logs)
			if !slices.Equal(again, want) || !is || e != api.OK {
				t.Errorf("Explain(%v, %+v) = %d, %v, %d, then %d", m, logs, again, is, e, want)
			}
			again = again[:cap(again)]
			for i := range again {
				again[i] = math.MinInt
			}
		}
		if !slices.Equal(first, want) {
			t.Errorf("the first result is %d, was %d", first, want)
		}
	}
}
