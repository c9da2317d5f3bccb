package agree_test

import (
	"math"
	"reflect"
	"slices"
	"testing"

	"ringdove/agree"
	"ringdove/api"
)

var states = []api.State{api.I, api.S, api.E, api.O, api.M}

var badLines = []int{math.MinInt, -16, -2, -1, 16, 17, 63, 256, 1 << 32, math.MaxInt}

var badConfigs = []api.Config{
	{},
	{Nodes: 1, Sets: 1, Ways: 1, Banks: 1},
	{Nodes: 9, Sets: 1, Ways: 1, Banks: 1},
	{Nodes: -3, Sets: 1, Ways: 1, Banks: 1},
	{Nodes: math.MinInt, Sets: 1, Ways: 1, Banks: 1},
	{Nodes: math.MaxInt, Sets: 1, Ways: 1, Banks: 1},
	{Nodes: 3, Sets: 0, Ways: 2, Banks: 1},
	{Nodes: 3, Sets: 3, Ways: 2, Banks: 1},
	{Nodes: 3, Sets: math.MaxInt, Ways: 2, Banks: 1},
	{Nodes: 3, Sets: 1, Ways: 0, Banks: 1},
	{Nodes: 3, Sets: 1, Ways: 5, Banks: 1},
	{Nodes: 3, Sets: 1, Ways: 2, Banks: 0},
	{Nodes: 3, Sets: 1, Ways: 2, Banks: 5},
}

// three is a small configuration in which every pair of lines fits into a cache.
var three = api.Config{Nodes: 3, Sets: 1, Ways: 2, Banks: 1}

// eight is the configuration in which every cache has room for all lines.
var eight = api.Config{Nodes: 8, Sets: 4, Ways: 4, Banks: 4}

var fresh, stale = api.Line{7, 8, 9, 10}, api.Line{7, 8, 9, 11}

func eachConfig(f func(c api.Config)) {
	for nodes := 2; nodes <= 8; nodes++ {
		for _, sets := range []int{1, 2, 4} {
			for ways := 1; ways <= 4; ways++ {
				for banks := 1; banks <= 4; banks++ {
					f(api.Config{Nodes: nodes, Sets: sets, Ways: ways, Banks: banks})
				}
			}
		}
	}
}

// empty returns a state with empty caches. It is made here, so that the tests of the other functions do not rest on New.
func empty(c api.Config) api.World {
	w := api.World{Caches: make([]api.Cache, c.Nodes)}
	for i := range w.Caches {
		w.Caches[i] = make(api.Cache, c.Sets)
		for k := range w.Caches[i] {
			w.Caches[i][k].Ways = make([]api.Way, c.Ways)
		}
	}
	return w
}

// filled returns a state in which all words of memory differ, so that a line that is taken for another one is seen.
func filled(c api.Config) api.World {
	w := empty(c)
	for i := range w.Memory {
		for k := range w.Memory[i] {
			w.Memory[i][k] = uint64(1000 + 10*i + k)
		}
	}
	return w
}

// add puts the line into the last empty way of the node's cache, so that empty ways precede it.
func add(c api.Config, w api.World, node int, x api.Way) {
	ways := w.Caches[node][x.Line%c.Sets].Ways
	for i := len(ways) - 1; i >= 0; i-- {
		if ways[i].At == api.I {
			ways[i] = x
			return
		}
	}
	panic("no empty way")
}

// spread returns a state whose nodes have the line, in these states and with these data.
func spread(c api.Config, line int, at []api.State, data []api.Line, memory api.Line) api.World {
	w := filled(c)
	w.Memory[line] = memory
	for i, s := range at {
		if s != api.I {
			add(c, w, i, api.Way{At: s, Line: line, Data: data[i]})
		}
	}
	return w
}

// clone returns a state that shares no memory with w, to compare w with later.
func clone(w api.World) api.World {
	w.Caches = slices.Clone(w.Caches)
	for i, h := range w.Caches {
		w.Caches[i] = slices.Clone(h)
		for k := range h {
			w.Caches[i][k].Ways = slices.Clone(h[k].Ways)
		}
	}
	return w
}

// want is what the functions return for a state and a line.
type want struct {
	e     api.Errno
	wrong int
	value api.Line
	have  []int
	owner int
	flat  api.Memory
}

// expect compares the results of all functions that take a state.
func expect(t *testing.T, c api.Config, w api.World, line int, x want) {
	t.Helper()
	if e, wrong := agree.Check(c, w); e != x.e || wrong != x.wrong {
		t.Errorf("Check(%+v, %v) = %d, %d, want %d, %d", c, w, e, wrong, x.e, x.wrong)
	}
	if value, e := agree.Value(c, w, line); value != x.value || e != x.e {
		t.Errorf("Value(%+v, %v, %d) = %v, %d, want %v, %d", c, w, line, value, e, x.value, x.e)
	}
	if have, owner, e := agree.Holders(c, w, line); !slices.Equal(have, x.have) || owner != x.owner || e != x.e {
		t.Errorf("Holders(%+v, %v, %d) = %v, %d, %d, want %v, %d, %d", c, w, line, have, owner, e, x.have, x.owner, x.e)
	}
	if flat, e := agree.Flat(c, w); flat != x.flat || e != x.e {
		t.Errorf("Flat(%+v, %v) = %v, %d, want %v, %d", c, w, flat, e, x.flat, x.e)
	}
}

// model returns what the document says of a state in which only this line is in caches.
func model(line int, at []api.State, data []api.Line, w api.World) want {
	x := want{owner: -1, value: w.Memory[line], flat: w.Memory}
	var count [5]int
	equal, current := true, true
	for i, s := range at {
		count[s]++
		if s == api.I {
			continue
		}
		x.have = append(x.have, i)
		x.value = data[i]
		equal = equal && data[i] == data[x.have[0]]
		current = current && data[i] == w.Memory[line]
		if s == api.O || s == api.M {
			x.owner = i
		}
	}
	x.flat[line] = x.value
	alone := count[api.E] + count[api.M]
	switch {
	case count[api.O] > 1 || alone > 1 || alone == 1 && len(x.have) > 1:
		return want{e: api.ErrState, wrong: line}
	case !equal || !current && (count[api.E] > 0 || count[api.O]+count[api.M] == 0):
		return want{e: api.ErrForm, wrong: line}
	}
	return x
}

// counts calls f with all lists of n numbers below base. The list is the same memory in every call.
func counts(n, base int, f func(list []int)) {
	list := make([]int, n)
	for {
		f(list)
		i := 0
		for ; i < n && list[i] == base-1; i++ {
			list[i] = 0
		}
		if i == n {
			return
		}
		list[i]++
	}
}

func TestP80New(t *testing.T) {
	eachConfig(func(c api.Config) {
		w, e := agree.New(c)
		if !reflect.DeepEqual(w, empty(c)) || e != api.OK {
			t.Errorf("New(%+v) = %v, %d", c, w, e)
		}
		if e := agree.Form(c, w); e != api.OK {
			t.Errorf("Form(%+v, New) = %d", c, e)
		}
		if e, line := agree.Check(c, w); e != api.OK || line != 0 {
			t.Errorf("Check(%+v, New) = %d, %d", c, e, line)
		}
	})
}

func TestP80NewOfABadConfiguration(t *testing.T) {
	for _, c := range badConfigs {
		w, e := agree.New(c)
		if len(w.Caches) != 0 || w.Memory != (api.Memory{}) || e != api.ErrRange {
			t.Errorf("New(%+v) = %v, %d, want nothing, ErrRange", c, w, e)
		}
	}
}

// A change of one cache or set is not visible in another one, nor in the next new state.
func TestP80NewIsNewMemory(t *testing.T) {
	w, _ := agree.New(eight)
	again, _ := agree.New(eight)
	mark := func(node, set int) int { return 1 + 4*node + set }
	for i, h := range w.Caches {
		for k := range h {
			ways := h[k].Ways[:cap(h[k].Ways)]
			for j := range ways {
				ways[j].Line = mark(i, k)
			}
		}
	}
	for i, h := range w.Caches {
		for k := range h {
			if h[k].Ways[0].Line != mark(i, k) || again.Caches[i][k].Ways[0].Line != 0 {
				t.Errorf("node %d, set %d: %v and %v", i, k, h[k], again.Caches[i][k])
			}
		}
	}
}

// Form is about the structure only: a state that is not coherent has a good form.
func TestP80FormOfGoodStates(t *testing.T) {
	if e := agree.Form(three, spread(three, 4, []api.State{api.M, api.M, api.E}, []api.Line{fresh, stale, {}}, api.Line{1})); e != api.OK {
		t.Errorf("error %d", e)
	}
	w := filled(eight)
	for i := range w.Caches {
		for line := range 16 {
			add(eight, w, i, api.Way{At: states[1+(i+line)%4], Line: line, Data: api.Line{uint64(i)}})
		}
		w.Caches[i][i%4].Tree = api.Tree{Top: true, Low: true, High: true}
	}
	if e := agree.Form(eight, w); e != api.OK {
		t.Errorf("error %d", e)
	}
}

// expectForm also expects the error from every other function, whatever the line is.
func expectForm(t *testing.T, c api.Config, w api.World, e api.Errno) {
	t.Helper()
	if got := agree.Form(c, w); got != e {
		t.Errorf("Form(%+v, %v) = %d, want %d", c, w, got, e)
	}
	for _, line := range append([]int{0, 4, 15}, badLines...) {
		expect(t, c, w, line, want{e: e})
	}
}

func TestP80BadConfiguration(t *testing.T) {
	for _, c := range badConfigs {
		expectForm(t, c, filled(three), api.ErrRange)
		expectForm(t, c, api.World{}, api.ErrRange)
		expectForm(t, c, api.World{Caches: []api.Cache{{{Tree: api.Tree{Top: true}}}}}, api.ErrRange)
	}
}

// The number of caches is examined before the caches, which have errors of their own here.
func TestP80BadNumberOfCaches(t *testing.T) {
	eachConfig(func(c api.Config) {
		if c.Banks > 1 || c.Ways > 2 {
			return
		}
		good, bad := empty(c), empty(c)
		bad.Caches[0][0].Ways[0].At = 9
		for _, w := range []api.World{good, bad} {
			for n := range c.Nodes {
				expectForm(t, c, api.World{Caches: w.Caches[:n]}, api.ErrForm)
			}
			more := append(slices.Clone(w.Caches), empty(c).Caches[0])
			expectForm(t, c, api.World{Caches: more}, api.ErrForm)
			expectForm(t, c, api.World{Caches: append(more, w.Caches...)}, api.ErrForm)
		}
	})
}

var two = api.Config{Nodes: 4, Sets: 2, Ways: 2, Banks: 1}

// faults are caches with an error of cache.Check, for configuration two.
var faults = []struct {
	h api.Cache
	e api.Errno
}{
	{nil, api.ErrForm},
	{api.Cache{{Ways: make([]api.Way, 2)}}, api.ErrForm},
	{api.Cache{{Ways: make([]api.Way, 2)}, {Ways: make([]api.Way, 2)}, {Ways: make([]api.Way, 2)}}, api.ErrForm},
	{api.Cache{{Ways: make([]api.Way, 2)}, {Ways: make([]api.Way, 1)}}, api.ErrForm},
	{api.Cache{{Ways: make([]api.Way, 2)}, {Ways: make([]api.Way, 3)}}, api.ErrForm},
	{api.Cache{{Ways: []api.Way{{At: 5}, {}}}, {Ways: make([]api.Way, 2)}}, api.ErrRange},
	{api.Cache{{Ways: []api.Way{{}, {At: -1}}}, {Ways: make([]api.Way, 2)}}, api.ErrRange},
	{api.Cache{{Ways: make([]api.Way, 2)}, {Ways: []api.Way{{}, {At: api.S, Line: 17}}}}, api.ErrRange},
	{api.Cache{{Ways: make([]api.Way, 2)}, {Ways: []api.Way{{}, {At: api.S, Line: -1}}}}, api.ErrRange},
	{api.Cache{{Ways: make([]api.Way, 2)}, {Ways: []api.Way{{}, {Line: 3}}}}, api.ErrForm},
	{api.Cache{{Ways: make([]api.Way, 2)}, {Ways: []api.Way{{}, {Data: api.Line{3: 1}}}}}, api.ErrForm},
	{api.Cache{{Ways: []api.Way{{At: api.S, Line: 2}, {At: api.S, Line: 2}}}, {Ways: make([]api.Way, 2)}}, api.ErrThere},
	{api.Cache{{Ways: []api.Way{{At: api.S, Line: 3}, {}}}, {Ways: make([]api.Way, 2)}}, api.ErrForm},
}

func TestP80BadCache(t *testing.T) {
	for _, x := range faults {
		for node := range two.Nodes {
			w := empty(two)
			w.Caches[node] = x.h
			expectForm(t, two, w, x.e)
		}
	}
	for _, tree := range []api.Tree{{Low: true}, {High: true}} {
		w := empty(two)
		w.Caches[3][1].Tree = tree
		expectForm(t, two, w, api.ErrForm)
	}
	w := empty(three)
	w.Caches[2] = empty(two).Caches[0]
	expectForm(t, three, w, api.ErrForm)
}

// The first cache with an error determines it, even if the error of a later one has a smaller number.
func TestP80FirstBadCache(t *testing.T) {
	for _, x := range faults {
		for _, y := range faults {
			for node := range two.Nodes - 1 {
				w := empty(two)
				w.Caches[node], w.Caches[two.Nodes-1] = x.h, y.h
				expectForm(t, two, w, x.e)
			}
		}
	}
}

// The whole form is examined before the lines: the incoherent line is in caches before the bad one.
func TestP80FormBeforeCheck(t *testing.T) {
	for _, x := range faults {
		for _, at := range [][]api.State{{api.M, api.M}, {api.S, api.S}} {
			w := spread(two, 0, at, []api.Line{fresh, stale}, api.Line{})
			w.Caches[3] = x.h
			expectForm(t, two, w, x.e)
		}
	}
}

// Three nodes have a line in every combination of states, and each has one of two data.
func TestP81EveryCombination(t *testing.T) {
	counts(3, 5, func(at []int) {
		counts(4, 2, func(which []int) {
			lines := make([]api.Line, 4)
			for i, k := range which {
				lines[i] = []api.Line{fresh, stale}[k]
			}
			s := []api.State{states[at[0]], states[at[1]], states[at[2]]}
			for _, line := range []int{0, 4, 15} {
				w := spread(three, line, s, lines, lines[3])
				expect(t, three, w, line, model(line, s, lines, w))
			}
		})
	})
}

// The examples are written out here, because the other tests compute what they expect.
func TestP81Examples(t *testing.T) {
	for _, x := range []struct {
		name   string
		at     []api.State
		data   []api.Line
		memory api.Line
		want   want
	}{
		{"in no cache", nil, nil, stale, want{value: stale, owner: -1}},
		{"S", []api.State{0, api.S}, []api.Line{1: fresh}, fresh, want{value: fresh, have: []int{1}, owner: -1}},
		{"E", []api.State{0, api.E}, []api.Line{1: fresh}, fresh, want{value: fresh, have: []int{1}, owner: -1}},
		{"O", []api.State{0, api.O}, []api.Line{1: fresh}, fresh, want{value: fresh, have: []int{1}, owner: 1}},
		{"M", []api.State{0, api.M}, []api.Line{1: fresh}, fresh, want{value: fresh, have: []int{1}, owner: 1}},
		{"older memory, O", []api.State{0, api.O}, []api.Line{1: fresh}, stale, want{value: fresh, have: []int{1}, owner: 1}},
		{"older memory, M", []api.State{0, 0, api.M}, []api.Line{2: fresh}, stale, want{value: fresh, have: []int{2}, owner: 2}},
		{"older memory, O and S", []api.State{api.S, api.O, api.S}, []api.Line{fresh, fresh, fresh}, stale, want{value: fresh, have: []int{0, 1, 2}, owner: 1}},
		{"older memory, E", []api.State{0, api.E}, []api.Line{1: fresh}, stale, want{e: api.ErrForm}},
		{"older memory, S", []api.State{0, 0, api.S}, []api.Line{2: fresh}, stale, want{e: api.ErrForm}},
		{"older memory, S and S", []api.State{api.S, 0, api.S}, []api.Line{fresh, {}, fresh}, stale, want{e: api.ErrForm}},
		{"O and S differ", []api.State{api.S, api.O, api.S}, []api.Line{fresh, fresh, stale}, stale, want{e: api.ErrForm}},
		{"O differs from S", []api.State{api.S, api.O, api.S}, []api.Line{fresh, stale, fresh}, fresh, want{e: api.ErrForm}},
		{"S and S differ", []api.State{api.S, 0, api.S}, []api.Line{fresh, {}, stale}, fresh, want{e: api.ErrForm}},
		{"M and S", []api.State{api.S, api.M}, []api.Line{fresh, fresh}, fresh, want{e: api.ErrState}},
		{"M and M differ", []api.State{api.M, 0, api.M}, []api.Line{fresh, {}, stale}, fresh, want{e: api.ErrState}},
		{"E and O", []api.State{api.O, api.E}, []api.Line{fresh, fresh}, fresh, want{e: api.ErrState}},
		{"O and O", []api.State{0, api.O, api.O}, []api.Line{1: fresh, 2: fresh}, fresh, want{e: api.ErrState}},
	} {
		t.Run(x.name, func(t *testing.T) {
			w := spread(three, 9, x.at, x.data, x.memory)
			if x.want.e == api.OK {
				x.want.flat = w.Memory
				x.want.flat[9] = x.want.value
			} else {
				x.want.wrong = 9
			}
			expect(t, three, w, 9, x.want)
		})
	}
}

// Any two of eight nodes, the first and the last one among them, have any line in any two states.
func TestP81EveryPairOfNodes(t *testing.T) {
	for line := range 16 {
		for i := range 8 {
			for k := i + 1; k < 8; k++ {
				for _, s := range states {
					for _, u := range states {
						at, data := make([]api.State, 8), make([]api.Line, 8)
						at[i], at[k], data[i], data[k] = s, u, fresh, fresh
						for _, memory := range []api.Line{fresh, stale} {
							w := spread(eight, line, at, data, memory)
							expect(t, eight, w, line, model(line, at, data, w))
						}
					}
				}
			}
		}
	}
}

func TestP81EveryNodeHasTheLine(t *testing.T) {
	for owner := range 8 {
		at, data := make([]api.State, 8), make([]api.Line, 8)
		for i := range at {
			at[i], data[i] = api.S, fresh
		}
		at[owner] = api.O
		w := spread(eight, 15, at, data, stale)
		x := want{value: fresh, have: []int{0, 1, 2, 3, 4, 5, 6, 7}, owner: owner, flat: w.Memory}
		x.flat[15] = fresh
		expect(t, eight, w, 15, x)
	}
}

// Data that differ in one bit differ.
func TestP81EveryBitOfTheData(t *testing.T) {
	for k := range 4 {
		for bit := range 64 {
			other := fresh
			other[k] ^= 1 << bit
			wrong := want{e: api.ErrForm, wrong: 3}
			expect(t, three, spread(three, 3, []api.State{api.O, api.S}, []api.Line{fresh, other}, fresh), 3, wrong)
			expect(t, three, spread(three, 3, []api.State{0, api.S, api.S}, []api.Line{1: other, 2: fresh}, fresh), 3, wrong)
			expect(t, three, spread(three, 3, []api.State{api.E}, []api.Line{other}, fresh), 3, wrong)
			expect(t, three, spread(three, 3, []api.State{0, 0, api.S}, []api.Line{2: fresh}, other), 3, wrong)
			w := spread(three, 3, []api.State{0, 0, api.M}, []api.Line{2: other}, fresh)
			flat := w.Memory
			flat[3] = other
			expect(t, three, w, 3, want{value: other, have: []int{2}, owner: 2, flat: flat})
		}
	}
}

// many returns a coherent state in which the lines are in caches in different ways, and the results for each line.
func many() (api.World, []want) {
	w := filled(eight)
	results := make([]want, 16)
	for line := range results {
		x := want{value: api.Line{uint64(line), 5, math.MaxUint64}, owner: -1}
		at := make([]api.State, 8)
		switch line % 5 {
		case 1:
			at[line%8] = api.S
			at[(line+3)%8] = api.S
			x.value = w.Memory[line]
		case 2:
			at[line%8] = api.E
			x.value = w.Memory[line]
		case 3:
			at[(line+1)%8] = api.S
			at[line%8] = api.O
			x.owner = line % 8
		case 4:
			at[line%8] = api.M
			x.owner = line % 8
		default:
			x.value = w.Memory[line]
		}
		for i, s := range at {
			if s != api.I {
				add(eight, w, i, api.Way{At: s, Line: line, Data: x.value})
				x.have = append(x.have, i)
			}
		}
		results[line] = x
	}
	var flat api.Memory
	for line, x := range results {
		flat[line] = x.value
	}
	for line := range results {
		results[line].flat = flat
	}
	return w, results
}

func TestP81ManyLines(t *testing.T) {
	w, results := many()
	for line, x := range results {
		expect(t, eight, w, line, x)
	}
}

// The empty caches of every configuration have no line: every line is in memory alone.
func TestP81EmptyCaches(t *testing.T) {
	eachConfig(func(c api.Config) {
		w := filled(c)
		for line := range 16 {
			expect(t, c, w, line, want{value: w.Memory[line], owner: -1, flat: w.Memory})
		}
	})
}

// The first wrong line determines the error: neither the order of sets and ways nor that of the errors does.
func TestP81FirstWrongLine(t *testing.T) {
	spoil := func(w api.World, line int, e api.Errno) {
		s, at := api.S, []int{5, 2}
		if e == api.ErrState {
			s = api.M
		}
		for k, node := range at {
			add(eight, w, node, api.Way{At: s, Line: line, Data: api.Line{uint64(k)}})
		}
	}
	for line := range 16 {
		for _, e := range []api.Errno{api.ErrState, api.ErrForm} {
			w := filled(eight)
			spoil(w, line, e)
			expect(t, eight, w, 0, want{e: e, wrong: line})
			for later := line + 1; later < 16; later++ {
				for _, f := range []api.Errno{api.ErrState, api.ErrForm} {
					next := clone(w)
					spoil(next, later, f)
					expect(t, eight, next, later, want{e: e, wrong: line})
				}
			}
		}
	}
}

// A line with both errors has the error of its states, whichever nodes have them.
func TestP81StatesBeforeData(t *testing.T) {
	for _, at := range [][]api.State{{api.S, api.S, api.M}, {api.S, api.O, api.O}, {api.E, api.S, api.S}, {api.O, api.S, api.E}} {
		data := []api.Line{fresh, stale, {}}
		expect(t, three, spread(three, 0, at, data, api.Line{5}), 0, want{e: api.ErrState})
		expect(t, three, spread(three, 15, at, data, fresh), 15, want{e: api.ErrState, wrong: 15})
	}
}

// An error of one line is an error for all lines, and comes before that of a line out of range.
func TestP81CheckBeforeTheLine(t *testing.T) {
	form := spread(three, 6, []api.State{api.S}, []api.Line{fresh}, stale)
	conflict := spread(three, 6, []api.State{api.M, api.S}, []api.Line{fresh, fresh}, fresh)
	for _, line := range append([]int{0, 5, 6, 7, 15}, badLines...) {
		expect(t, three, form, line, want{e: api.ErrForm, wrong: 6})
		expect(t, three, conflict, line, want{e: api.ErrState, wrong: 6})
	}
}

func TestP81LinesOutOfRange(t *testing.T) {
	full, _ := many()
	for _, w := range []api.World{empty(eight), filled(eight), full} {
		for _, line := range badLines {
			if value, e := agree.Value(eight, w, line); value != (api.Line{}) || e != api.ErrRange {
				t.Errorf("Value(%v, %d) = %v, %d, want zeros, ErrRange", w, line, value, e)
			}
			if have, owner, e := agree.Holders(eight, w, line); len(have) != 0 || owner != 0 || e != api.ErrRange {
				t.Errorf("Holders(%v, %d) = %v, %d, %d, want nothing, 0, ErrRange", w, line, have, owner, e)
			}
		}
	}
}

// roomy returns a state with the contents of w whose slices have room after their length, and a function that reports whether it is unchanged.
func roomy(w api.World) (api.World, func() bool) {
	caches := append(slices.Clone(w.Caches), api.Cache{{Ways: []api.Way{{At: api.M}}}})
	for i, h := range caches {
		sets := append(slices.Clone(h), api.Row{Tree: api.Tree{Top: true}})
		for k, r := range sets {
			ways := append(slices.Clone(r.Ways), api.Way{At: api.M, Line: 7})
			sets[k].Ways = ways[:len(r.Ways)]
		}
		caches[i] = sets[:len(h)]
	}
	w.Caches = caches[:len(w.Caches)]
	whole := func() []any {
		var all []any
		for _, h := range caches {
			for _, r := range h[:len(h)+1] {
				all = append(all, len(h), len(r.Ways), r.Tree, slices.Clone(r.Ways[:len(r.Ways)+1]))
			}
		}
		return append(all, w.Memory)
	}
	before := whole()
	return w, func() bool { return reflect.DeepEqual(whole(), before) }
}

func TestP81TheStateThatWasPassedInIsUnchanged(t *testing.T) {
	full, _ := many()
	bad := clone(full)
	bad.Caches[7][3].Ways[0].At = 9
	wrong := clone(full)
	wrong.Memory[1][0]++
	for i, x := range []api.World{full, filled(eight), bad, wrong} {
		w, unchanged := roomy(x)
		for _, line := range append([]int{0, 3, 15}, badLines...) {
			agree.Form(eight, w)
			agree.Check(eight, w)
			agree.Value(eight, w, line)
			agree.Flat(eight, w)
			have, _, _ := agree.Holders(eight, w, line)
			clear(have[:cap(have)])
			if !unchanged() {
				t.Fatalf("state %d has changed: %v", i, w)
			}
		}
	}
}

func TestP81ResultsShareNoMemory(t *testing.T) {
	w, results := many()
	for line, x := range results {
		first, _, _ := agree.Holders(eight, w, line)
		second, _, _ := agree.Holders(eight, w, line)
		clear(first[:cap(first)])
		if !slices.Equal(second, x.have) {
			t.Errorf("line %d: %v, want %v", line, second, x.have)
		}
		expect(t, eight, w, line, x)
	}
}
