package deed_test

import (
	"math"
	"reflect"
	"slices"
	"strings"
	"testing"

	"ringdove/agree"
	"ringdove/api"
	"ringdove/atomic"
	"ringdove/deed"
	"ringdove/plru"
)

const letters = "ISEOM"

var kinds = []api.Kind{api.KLoad, api.KStore, api.KSwap, api.KPut}

// three is a configuration in which a set has room for a line beside that of the operation.
var three = api.Config{Nodes: 3, Sets: 2, Ways: 2, Banks: 1}

// narrow is a configuration in which every new line evicts another one.
var narrow = api.Config{Nodes: 3, Sets: 1, Ways: 1, Banks: 1}

// eight is the configuration in which every cache has room for all lines.
var eight = api.Config{Nodes: 8, Sets: 4, Ways: 4, Banks: 4}

// fresh are data that no line of memory has.
var fresh = api.Line{7, math.MaxUint64, 1 << 40, 10}

// shared has all states in which three nodes may have a line: a letter for each node.
var shared = []string{
	"III", "SII", "ISI", "IIS", "SSI", "SIS", "ISS", "SSS",
	"EII", "IEI", "IIE", "MII", "IMI", "IIM",
	"OII", "OSI", "OIS", "OSS", "IOI", "SOI", "IOS", "SOS", "IIO", "SIO", "ISO", "SSO",
}

// takes reports whether an operation of the kind may have a Value other than 0.
func takes(k api.Kind) bool { return k == api.KStore || k == api.KSwap }

// operation returns an operation that has a Value if its kind may have one.
func operation(node int, k api.Kind, a int, v uint64) api.Deed {
	if !takes(k) {
		v = 0
	}
	return api.Deed{Node: node, Kind: k, Addr: a, Value: v}
}

func eachConfig(f func(c api.Config)) {
	for nodes := 2; nodes <= 8; nodes++ {
		for _, sets := range []int{1, 2, 4} {
			for ways := 1; ways <= 4; ways++ {
				f(api.Config{Nodes: nodes, Sets: sets, Ways: ways, Banks: 1 + (nodes+ways)%4})
			}
		}
	}
}

// filled returns a state with empty caches in which all words of memory differ.
func filled(c api.Config) api.World {
	w := api.World{Caches: make([]api.Cache, c.Nodes)}
	for i := range w.Caches {
		w.Caches[i] = make(api.Cache, c.Sets)
		for k := range w.Caches[i] {
			w.Caches[i][k].Ways = make([]api.Way, c.Ways)
		}
	}
	for i := range w.Memory {
		for k := range w.Memory[i] {
			w.Memory[i][k] = uint64(1000 + 10*i + k)
		}
	}
	return w
}

// spread puts the line into the caches, in the states of the letters: data that nobody owns are those of memory.
func spread(c api.Config, w api.World, line int, at string) {
	data := w.Memory[line]
	if strings.ContainsAny(at, "OM") {
		data = fresh
	}
	for i, letter := range at {
		if letter != 'I' {
			add(c, w, i, api.Way{At: api.State(strings.IndexRune(letters, letter)), Line: line, Data: data})
		}
	}
}

// add puts a way into the last empty way of its set, so that empty ways precede it.
func add(c api.Config, w api.World, node int, x api.Way) {
	ways := w.Caches[node][x.Line%c.Sets].Ways
	for i := len(ways) - 1; i >= 0; i-- {
		if ways[i].At == api.I {
			ways[i] = x
			return
		}
	}
	panic("no empty way")
}

// lookup returns where the node has the line, or nil.
func lookup(w api.World, node, line int) *api.Way {
	for _, r := range w.Caches[node] {
		for i, x := range r.Ways {
			if x.At != api.I && x.Line == line {
				return &r.Ways[i]
			}
		}
	}
	return nil
}

// names returns the letters of all nodes' states of a line.
func names(w api.World, line int) string {
	var s strings.Builder
	for i := range w.Caches {
		at := api.I
		if x := lookup(w, i, line); x != nil {
			at = x.At
		}
		s.WriteByte(letters[at])
	}
	return s.String()
}

// clone returns a state that shares no memory with w.
func clone(w api.World) api.World {
	w.Caches = slices.Clone(w.Caches)
	for i, h := range w.Caches {
		w.Caches[i] = slices.Clone(h)
		for k := range h {
			w.Caches[i][k].Ways = slices.Clone(h[k].Ways)
		}
	}
	return w
}

// model performs an operation that has no error as chapter 10 says it, on a copy of the state that it changes in place.
func model(c api.Config, w api.World, d api.Deed) (api.World, api.Done) {
	w = clone(w)
	line, word := d.Addr/4, d.Addr%4
	before := names(w, line)
	own := before[d.Node]
	done := api.Done{Hit: hits(own, d.Kind), From: -1, Out: -1}
	value := w.Memory[line]
	for i := range w.Caches {
		if x := lookup(w, i, line); x != nil {
			value = x.Data
		}
	}
	if d.Kind == api.KLoad || d.Kind == api.KSwap {
		done.Told = value[word]
	}
	if own == 'I' {
		done.From = strings.IndexAny(before, "OM")
	}
	if d.Kind == api.KPut {
		x := lookup(w, d.Node, line)
		leave(&w, &done, *x)
		*x = api.Way{}
		return w, done
	}
	if takes(d.Kind) {
		value[word] = d.Value
	}
	after := letterAfter(before, d.Node, d.Kind)
	for i := range w.Caches {
		if x := lookup(w, i, line); x != nil && i != d.Node {
			x.At = api.State(strings.IndexByte(letters, after[i]))
			if x.At == api.I {
				*x = api.Way{}
			}
		}
	}
	x := api.Way{At: api.State(strings.IndexByte(letters, after[d.Node])), Line: line, Data: value}
	access(c, &w, &done, d.Node, x)
	return w, done
}

// hits has the table of P100 written out.
func hits(own byte, k api.Kind) bool {
	switch k {
	case api.KLoad:
		return strings.IndexByte("SEOM", own) >= 0
	case api.KPut:
		return strings.IndexByte("ISE", own) >= 0
	}
	return strings.IndexByte("EM", own) >= 0
}

// letterAfter returns the letters of a line after a load, a store or a swap.
func letterAfter(before string, node int, k api.Kind) string {
	after := []byte(before)
	switch {
	case takes(k):
		after = []byte(strings.Repeat("I", len(before)))
		after[node] = 'M'
	case before == strings.Repeat("I", len(before)):
		after[node] = 'E'
	case before[node] == 'I':
		after = []byte(strings.NewReplacer("E", "S", "M", "O").Replace(before))
		after[node] = 'S'
	}
	return string(after)
}

// leave records that a way has left its cache, and writes it to memory if it was in state O or M.
func leave(w *api.World, done *api.Done, x api.Way) {
	if x.At == api.I {
		return
	}
	done.Out = x.Line
	if x.At == api.O || x.At == api.M {
		done.Wrote = true
		w.Memory[x.Line] = x.Data
	}
}

// access puts x where the node has the line, into the first empty way, or in place of the victim, and touches it.
func access(c api.Config, w *api.World, done *api.Done, node int, x api.Way) {
	r := &w.Caches[node][x.Line%c.Sets]
	i := slices.IndexFunc(r.Ways, func(y api.Way) bool { return y.At != api.I && y.Line == x.Line })
	if i < 0 {
		i = slices.IndexFunc(r.Ways, func(y api.Way) bool { return y.At == api.I })
		if i < 0 {
			i, _ = plru.Victim(r.Tree, c.Ways)
		}
		leave(w, done, r.Ways[i])
	}
	r.Ways[i] = x
	r.Tree, _ = plru.Touch(r.Tree, c.Ways, i)
}

// expectDo compares Hit and Do with the model, for an operation that has no error, and returns the state afterwards.
// It compares them with plain memory too, and expects a coherent state.
func expectDo(t *testing.T, c api.Config, w api.World, d api.Deed) (api.World, api.Done) {
	t.Helper()
	want, told := model(c, w, d)
	got, done, e := deed.Do(c, w, d)
	if !reflect.DeepEqual(got, want) || done != told || e != api.OK {
		t.Fatalf("Do(%+v, %v, %+v) = %v, %+v, %d, want %v, %+v", c, w, d, got, done, e, want, told)
	}
	if hit, e := deed.Hit(c, w, d); hit != told.Hit || e != api.OK {
		t.Fatalf("Hit(%+v, %v, %+v) = %v, %d, want %v", c, w, d, hit, e, told.Hit)
	}
	if e, line := agree.Check(c, got); e != api.OK {
		t.Fatalf("after Do(%+v, %v, %+v): error %d of line %d", c, w, d, e, line)
	}
	flat, _ := agree.Flat(c, w)
	m, v, _ := atomic.Do(flat, d)
	if n, _ := agree.Flat(c, got); n != m || done.Told != v {
		t.Fatalf("Do(%+v, %v, %+v): %v and %d, but %v and %d in plain memory", c, w, d, n, done.Told, m, v)
	}
	return got, done
}

// expectError expects the same error from Do, and from Play, without another result.
func expectError(t *testing.T, c api.Config, w api.World, d api.Deed, want api.Errno) {
	t.Helper()
	if x, done, e := deed.Do(c, w, d); !isZero(x) || done != (api.Done{}) || e != want {
		t.Errorf("Do(%+v, %v, %+v) = %v, %+v, %d, want zeros, %d", c, w, d, x, done, e, want)
	}
	expectNoPlay(t, c, w, []api.Deed{d}, want)
}

// expectErrors expects the error from Hit, too.
func expectErrors(t *testing.T, c api.Config, w api.World, d api.Deed, want api.Errno) {
	t.Helper()
	if hit, e := deed.Hit(c, w, d); hit || e != want {
		t.Errorf("Hit(%+v, %v, %+v) = %v, %d, want false, %d", c, w, d, hit, e, want)
	}
	expectError(t, c, w, d, want)
}

func expectNoPlay(t *testing.T, c api.Config, w api.World, l []api.Deed, want api.Errno) {
	t.Helper()
	if x, done, e := deed.Play(c, w, l); !isZero(x) || len(done) != 0 || e != want {
		t.Errorf("Play(%+v, %v, %+v) = %v, %+v, %d, want zeros, %d", c, w, l, x, done, e, want)
	}
}

func isZero(w api.World) bool { return len(w.Caches) == 0 && w.Memory == (api.Memory{}) }
