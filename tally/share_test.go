package tally_test

import (
	"slices"
	"testing"

	"ringdove/api"
	"ringdove/tally"
)

// mark overwrites a log, also beyond its length.
func mark(log []api.Told, n int) {
	log = log[:cap(log)]
	for i := range log {
		log[i] = api.Told{Deed: api.Deed{Node: n, Kind: 78, Addr: 79, Value: 80}, V: 81}
	}
}

// markAll overwrites all logs, each with its own number.
func markAll(logs [][]api.Told) {
	for node, log := range logs {
		mark(log, 700+node)
	}
}

// lists returns events without an error and with each of them, with others in the capacity beyond their length.
func lists() [][]api.Event {
	var all [][]api.Event
	for _, n := range []int{0, 1, 7, 199, 200, 201} {
		all = append(all, inTurn(3, n+9)[:n])
		for _, x := range failures(3) {
			l := inTurn(3, n+9)
			put(l, n/2, x.d)
			put(l, n+3, x.d)
			all = append(all, l[:n])
		}
	}
	return all
}

func TestP150WhatWasPassedInIsUnchanged(t *testing.T) {
	for _, l := range lists() {
		for _, c := range []api.Config{with(3), with(8), {}} {
			before, m := slices.Clone(l[:cap(l)]), filled()
			logs, _ := tally.Logs(c, l)
			counts, _ := tally.Counts(c, l)
			n, _ := tally.Memory(m, l)
			markAll(logs)
			clear(logs[:cap(logs)])
			clear(counts[:cap(counts)])
			n[0][0], n[15][3] = 97, 98
			if !slices.Equal(l[:cap(l)], before) || m != filled() {
				t.Errorf("%+v and %v, were %+v", l[:cap(l)], m, before)
			}
		}
	}
}

// A later change of what was passed in, or of an earlier result, is not visible in a result.
func TestP150ResultsShareNoMemory(t *testing.T) {
	for nodes := 2; nodes <= 8; nodes++ {
		for _, pick := range orders(nodes) {
			for _, n := range []int{0, 1, 50, 200} {
				c, l := with(nodes), events(n, pick)
				first, _ := tally.Logs(c, l)
				logs, _ := tally.Logs(c, l)
				earlier, _ := tally.Counts(c, l)
				counts, _ := tally.Counts(c, l)
				markAll(first)
				clear(first[:cap(first)])
				clear(earlier[:cap(earlier)])
				clear(l)
				want := events(n, pick)
				if !equalLogs(logs, logsOf(nodes, want)) || !slices.Equal(counts, countsOf(nodes, want)) {
					t.Errorf("%d events: %+v and %+v", n, logs, counts)
				}
			}
		}
	}
}

// No log reaches into another one, also not with its capacity.
func TestP150LogsShareNoMemory(t *testing.T) {
	for nodes := 2; nodes <= 8; nodes++ {
		for _, pick := range orders(nodes) {
			for _, n := range []int{1, 3, 50, 199, 200} {
				for node := range nodes {
					l := events(n, pick)
					want := logsOf(nodes, l)
					logs, _ := tally.Logs(with(nodes), l)
					mark(logs[node], 77)
					mark(want[node], 77)
					if !equalLogs(logs, want) {
						t.Errorf("after a change of log %d: %+v, want %+v", node, logs, want)
					}
				}
			}
		}
	}
}
