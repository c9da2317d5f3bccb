package machine_test

import (
	"reflect"
	"slices"
	"testing"

	"ringdove/api"
	"ringdove/machine"
)

// roomy returns a machine with the contents of m whose slices have room after their length, and a function that
// reports whether it is unchanged, also in this room.
func roomy(m api.Machine) (api.Machine, func() bool) {
	m = clone(m)
	for i, h := range m.World.Caches {
		for k, r := range h {
			h[k].Ways = append(r.Ways, api.Way{At: api.M, Line: 7}, api.Way{})[:len(r.Ways)]
		}
		m.World.Caches[i] = append(h, api.Row{Tree: api.Tree{Top: true}})[:len(h)]
	}
	m.World.Caches = append(m.World.Caches, api.Cache{{}})[:len(m.World.Caches)]
	m.Ring = append(m.Ring, empty(m.Config.Nodes, 8)...)[:len(m.Ring)]
	for node, l := range m.Progs {
		m.Progs[node] = append(l, program(node, 3)...)[:len(l)]
	}
	m.Progs = append(m.Progs, program(7, 2))[:len(m.Progs)]
	m.At = append(m.At, 0, 1, 2)[:len(m.At)]
	m.Waits = append(m.Waits, 5, 6)[:len(m.Waits)]
	lengths := clone(m)
	before := whole(m)
	return m, func() bool { return same(m, lengths) && reflect.DeepEqual(whole(m), before) }
}

// whole returns a copy of a machine with what is beyond the lengths of its slices.
func whole(m api.Machine) api.Machine {
	m.World.Caches = m.World.Caches[:cap(m.World.Caches)]
	m.World.Caches = slices.Clone(m.World.Caches)
	for i, h := range m.World.Caches {
		h = slices.Clone(h[:cap(h)])
		for k, r := range h {
			h[k].Ways = r.Ways[:cap(r.Ways)]
		}
		m.World.Caches[i] = h
	}
	m.Ring = m.Ring[:cap(m.Ring)]
	m.Progs = slices.Clone(m.Progs[:cap(m.Progs)])
	for node, l := range m.Progs {
		m.Progs[node] = l[:cap(l)]
	}
	m.At = m.At[:cap(m.At)]
	m.Waits = m.Waits[:cap(m.Waits)]
	return clone(m)
}

// scribble changes all memory of a machine, and leaves a different number in each of its slices.
func scribble(m api.Machine) {
	for i, h := range m.World.Caches[:cap(m.World.Caches)] {
		for k := range h[:cap(h)] {
			r := &h[:cap(h)][k]
			for j := range r.Ways[:cap(r.Ways)] {
				r.Ways[:cap(r.Ways)][j] = api.Way{At: 77, Line: 100*i + k}
			}
			r.Tree = api.Tree{Top: true, Low: true, High: true}
		}
	}
	for k := range m.Ring[:cap(m.Ring)] {
		m.Ring[:cap(m.Ring)][k] = api.Slot{At: 71, By: 72, Wait: 73}
	}
	for node, l := range m.Progs[:cap(m.Progs)] {
		for i := range l[:cap(l)] {
			l[:cap(l)][i] = api.Deed{Node: 700 + node}
		}
	}
	for i := range m.At[:cap(m.At)] {
		m.At[:cap(m.At)][i] = 81
	}
	for i := range m.Waits[:cap(m.Waits)] {
		m.Waits[:cap(m.Waits)][i] = 82
	}
}

// isScribbled reports whether each slice still has its own number: no two of them are the same memory.
func isScribbled(m api.Machine) bool {
	for i, h := range m.World.Caches {
		for k, r := range h {
			for _, x := range r.Ways {
				if x.Line != 100*i+k {
					return false
				}
			}
		}
	}
	for node, l := range m.Progs {
		for _, d := range l {
			if d.Node != 700+node {
				return false
			}
		}
	}
	isOther := func(want int) func(int) bool { return func(n int) bool { return n != want } }
	return !slices.ContainsFunc(m.At, isOther(81)) && !slices.ContainsFunc(m.Waits, isOther(82))
}

// results calls every function that takes a machine, and returns the machines and the events that they return.
func results(m api.Machine) ([]api.Machine, [][]api.Event) {
	machine.Check(m)
	machine.Ended(m)
	machine.Bound(m)
	x, l, _ := machine.Step(m)
	machines, events := []api.Machine{x}, [][]api.Event{l}
	for _, cycles := range []int{-1, 0, 1, 20, 4000, 4001} {
		x, l, _ := machine.Run(m, cycles)
		machines, events = append(machines, x), append(events, l)
	}
	return machines, events
}

// spoiledMachines returns machines with an error.
func spoiledMachines(t *testing.T) []api.Machine {
	t.Helper()
	var all []api.Machine
	for _, x := range slices.Concat(worldSpoilers, ringSpoilers, otherSpoilers) {
		m := begun(t)
		x.spoil(&m)
		all = append(all, m)
	}
	return all
}

// Also by scribbling over the results, with their capacity.
func TestP142WhatWasPassedInIsUnchanged(t *testing.T) {
	for _, x := range slices.Concat(someMachines(t), []api.Machine{begun(t)}, spoiledMachines(t)) {
		m, unchanged := roomy(x)
		machines, events := results(m)
		for _, l := range events {
			clear(l[:cap(l)])
		}
		for _, y := range machines {
			scribble(y)
			if !isScribbled(y) {
				t.Fatalf("%+v: two slices of a result share memory", m)
			}
		}
		if !unchanged() {
			t.Fatalf("%+v has changed: %+v", x, m)
		}
	}
}

// A later change of what was passed in is not visible in a result.
func TestP142ResultsShareNoMemory(t *testing.T) {
	for _, x := range slices.Concat(someMachines(t), []api.Machine{begun(t)}) {
		want, wantEvents := results(x)
		m, _ := roomy(x)
		machines, events := results(m)
		scribble(m)
		for i := range machines {
			if !same(machines[i], want[i]) || !slices.Equal(events[i], wantEvents[i]) {
				t.Fatalf("%d: %+v, %+v, want %+v, %+v", i, machines[i], events[i], want[i], wantEvents[i])
			}
		}
		// Two machines with the same history are the same, and share no memory with one another.
		scribble(machines[2])
		if again, _ := results(x); !same(machines[3], want[3]) || !same(again[2], want[2]) {
			t.Fatalf("%+v: a change of one result is visible in another one", x)
		}
	}
}

// roomyParts returns programs and waits with room after their lengths.
func roomyParts() ([][]api.Deed, []int) {
	p := programs(2, 3, 4, 5)
	for node, l := range p {
		p[node] = append(l, program(node, 2)...)[:len(l)]
	}
	return p[:3], []int{1, 2, 3, 4}[:3]
}

func TestP140NewSharesNoMemory(t *testing.T) {
	p, waits := roomyParts()
	want := clone(build(t, three, 2, p, waits...))
	m, e := machine.New(three, 2, p, waits)
	if e != api.OK {
		t.Fatal(e)
	}
	m.World.Memory = want.World.Memory
	scribble(api.Machine{Progs: p, Waits: waits})
	if !same(m, want) {
		t.Errorf("%+v, want %+v", m, want)
	}
}

func TestP140NewLeavesItsArguments(t *testing.T) {
	for _, slots := range []int{0, 2} {
		for _, last := range []int{3, 10} {
			p, waits := roomyParts()
			waits[2] = last
			before := whole(api.Machine{Progs: p, Waits: waits})
			first, _ := machine.New(three, slots, p, waits)
			second, _ := machine.New(three, slots, p, waits)
			want := clone(second)
			scribble(first)
			if !isScribbled(first) || !same(second, want) || !reflect.DeepEqual(whole(api.Machine{Progs: p, Waits: waits}), before) {
				t.Errorf("%+v and %d have changed, or %+v", p, waits, second)
			}
		}
	}
}

// Programs and caches that share memory in an argument do not share it in the result.
func TestP142SharedArguments(t *testing.T) {
	c := api.Config{Nodes: 2, Sets: 2, Ways: 2, Banks: 1}
	m := build(t, c, 1, [][]api.Deed{{load(0, 1)}, {load(1, 1)}})
	m.World.Caches[0][1] = m.World.Caches[0][0]
	m.World.Caches[1] = m.World.Caches[0]
	numbers := []int{0, 0}
	m.At, m.Waits = numbers, numbers
	machines, _ := results(m)
	for i, x := range machines {
		scribble(x)
		if !isScribbled(x) {
			t.Errorf("%d: two slices of the result share memory", i)
		}
	}
	if numbers[0] != 0 || numbers[1] != 0 {
		t.Errorf("the numbers are %d", numbers)
	}
}
