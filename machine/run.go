package machine

import (
	"slices"

	"ringdove/api"
	"ringdove/deed"
	"ringdove/prog"
	"ringdove/ring"
)

// run is a machine without an error, which goes on in place, and the events since the run began.
type run struct {
	machine api.Machine
	events  []api.Event
}

// runOf returns the machine and the events after what is done with a run of a copy of the machine.
func runOf(m api.Machine, do func(*run) api.Errno) (api.Machine, []api.Event, api.Errno) {
	m, e := copyMachine(m)
	if e != api.OK {
		return api.Machine{}, nil, e
	}
	r := &run{machine: m}
	if e := do(r); e != api.OK {
		return api.Machine{}, nil, e
	}
	return r.machine, r.events, api.OK
}

// cycles goes on for n cycles, or until all programs are finished. After a cycle the machine has no error either,
// so it is not checked again.
func (r *run) cycles(n int) api.Errno {
	for range n {
		if hasEnded(r.machine) {
			break
		}
		if e := r.cycle(); e != api.OK {
			return e
		}
	}
	return api.OK
}

// cycle simulates one cycle: first the nodes that the ring returns, and then the other ones.
func (r *run) cycle() api.Errno {
	m := &r.machine
	// Each node uses at most one wait in a cycle, so that Had does not become greater than MaxTime.
	if m.Had >= api.MaxTime-api.MaxNodes {
		return api.ErrFull
	}
	next, back, e := ring.Step(m.Config, m.Ring)
	if e != api.OK {
		return e
	}
	m.Ring = next
	for _, node := range back {
		if e := r.perform(node, true); e != api.OK {
			return e
		}
	}
	for node := range m.Config.Nodes {
		if slices.Contains(back, node) {
			continue
		}
		if e := r.turn(node); e != api.OK {
			return e
		}
	}
	return api.OK
}

// turn is what a node does that the ring has not returned.
func (r *run) turn(node int) api.Errno {
	m := &r.machine
	if isFinished(*m, node) || isAway(m.Ring, node) {
		return api.OK
	}
	d, _, e := prog.Next(m.Progs, m.At, node)
	if e != api.OK {
		return e
	}
	// A KPut of a line that the node does not have is a hit, too.
	hit, e := deed.Hit(m.Config, m.World, d)
	if e != api.OK {
		return e
	}
	if hit {
		return r.perform(node, false)
	}
	return r.ask(node)
}

// perform performs the next operation of the node, and records it.
func (r *run) perform(node int, by bool) api.Errno {
	m := &r.machine
	d, _, e := prog.Next(m.Progs, m.At, node)
	if e != api.OK {
		return e
	}
	w, done, e := deed.Do(m.Config, m.World, d)
	switch e {
	case api.OK:
		m.World = w
	case api.ErrNone:
		// This is a KPut of a line that the node does not have, or no longer has because its slot was away.
	default:
		return e
	}
	m.At[node]++
	r.events = append(r.events, api.Event{Deed: d, Told: done.Told, By: by})
	return api.OK
}

// ask has the node fill a slot with the next wait. If there is no slot for it, the wait is left to the next node that asks.
func (r *run) ask(node int) api.Errno {
	m := &r.machine
	next, is, e := ring.Put(m.Config, m.Ring, node, nextWait(*m))
	if e != api.OK {
		return e
	}
	m.Ring = next
	if is {
		m.Had++
	}
	return api.OK
}

func nextWait(m api.Machine) int {
	if len(m.Waits) == 0 {
		return 0
	}
	return m.Waits[m.Had%len(m.Waits)]
}

// isAway reports whether a slot is filled by the node.
func isAway(r api.Ring, node int) bool {
	return slices.ContainsFunc(r, func(s api.Slot) bool { return s.Full && s.By == node })
}

// copyMachine returns a machine that shares no memory with m.
func copyMachine(m api.Machine) (api.Machine, api.Errno) {
	// A state in which no operation is performed is a copy.
	w, _, e := deed.Play(m.Config, m.World, nil)
	if e != api.OK {
		return api.Machine{}, e
	}
	m.World = w
	m.Ring = slices.Clone(m.Ring)
	m.Progs = copyPrograms(m.Progs)
	m.At = slices.Clone(m.At)
	m.Waits = slices.Clone(m.Waits)
	return m, api.OK
}
