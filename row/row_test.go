package row_test

import (
	"math"
	"reflect"
	"slices"
	"testing"

	"ringdove/api"
	"ringdove/plru"
	"ringdove/row"
)

var held = []api.State{api.S, api.E, api.O, api.M}

var badStates = []api.State{math.MinInt, -256, -1, 5, 6, 256, 1 << 32, math.MaxInt}

var badLines = []int{math.MinInt, -16, -1, api.Lines, api.Lines + 1, 256, 1 << 32, math.MaxInt}

var badWays = []int{math.MinInt, -1, 0, api.MaxWays + 1, 1 << 32, math.MaxInt}

var trees = []api.Tree{
	{}, {High: true}, {Low: true}, {Low: true, High: true},
	{Top: true}, {Top: true, High: true}, {Top: true, Low: true}, {Top: true, Low: true, High: true},
}

// way returns a way that differs from all others in every word.
func way(at api.State, line int) api.Way {
	n := uint64(line)
	return api.Way{At: at, Line: line, Data: api.Line{n + 1, n + 20, math.MaxUint64 - n, n << 50}}
}

// clone returns a set that shares no memory with r, to compare r with later.
func clone(r api.Row) api.Row { return api.Row{Ways: slices.Clone(r.Ways), Tree: r.Tree} }

// set returns a set in which the ways whose bit is 1 in full contain the lines 0, 5, 10 and 15.
func set(ways, full int, tree api.Tree) api.Row {
	r := api.Row{Ways: make([]api.Way, ways), Tree: tree}
	for i := range r.Ways {
		if full>>i&1 == 1 {
			r.Ways[i] = way(held[(i+full)%len(held)], 5*i)
		}
	}
	return r
}

// eachSet calls f with sets of every number of ways, with every tree and with every choice of empty ways.
func eachSet(f func(r api.Row, ways int)) {
	for ways := 1; ways <= api.MaxWays; ways++ {
		for _, tree := range trees {
			if plru.Check(tree, ways) != api.OK {
				continue
			}
			for full := 0; full < 1<<ways; full++ {
				f(set(ways, full, tree), ways)
			}
		}
	}
}

// at returns the index of the way that contains the line, or -1.
func at(r api.Row, line int) int {
	return slices.IndexFunc(r.Ways, func(x api.Way) bool { return x.At != api.I && x.Line == line })
}

// with returns the set in which the way is x.
func with(r api.Row, i int, x api.Way) api.Row {
	r = clone(r)
	r.Ways[i] = x
	return r
}

// touched returns the set after an access to the way.
func touched(t *testing.T, r api.Row, ways, i int) api.Row {
	t.Helper()
	tree, e := plru.Touch(r.Tree, ways, i)
	if e != api.OK {
		t.Fatalf("Touch(%v, %d, %d): error %d", r.Tree, ways, i, e)
	}
	r.Tree = tree
	return r
}

func TestP50GoodSets(t *testing.T) {
	eachSet(func(r api.Row, ways int) {
		if e := row.Check(r, ways); e != api.OK {
			t.Errorf("Check(%v, %d) = %d", r, ways, e)
		}
	})
	for _, s := range held {
		for line := range api.Lines {
			for _, x := range []api.Way{way(s, line), {At: s, Line: line}} {
				if e := row.Check(api.Row{Ways: []api.Way{x}}, 1); e != api.OK {
					t.Errorf("Check of the way %v = %d", x, e)
				}
			}
		}
	}
}

// An empty way has Line 0, but it does not contain line 0.
func TestP50EmptyWaysRepeatNoLine(t *testing.T) {
	for _, ways := range [][]api.Way{
		{{}, {}, {}, {}},
		{{}, way(api.S, 0)},
		{way(api.S, 0), {}},
		{{}, way(api.M, 0), {}},
	} {
		if e := row.Check(api.Row{Ways: ways}, len(ways)); e != api.OK {
			t.Errorf("Check(%v) = %d", ways, e)
		}
	}
}

// badSet is a set with an error of Check.
type badSet struct {
	name string
	r    api.Row
	ways int
	want api.Errno
}

func badSets() []badSet {
	bad := slices.Concat(badTrees(), badNumbers(), badParts(), badOrders())
	for i := range api.MaxWays {
		for j := range i {
			r := set(api.MaxWays, 15, api.Tree{})
			r.Ways[i] = way(api.S, r.Ways[j].Line)
			bad = append(bad, badSet{"a line that is there twice", r, api.MaxWays, api.ErrThere})
		}
	}
	return bad
}

// badTrees are the errors of plru.Check, also where the ways have errors that come later.
func badTrees() []badSet {
	var bad []badSet
	for _, ways := range badWays {
		for _, r := range []api.Row{{}, set(1, 1, api.Tree{}), set(4, 15, trees[7]), {Ways: []api.Way{{Line: 1}}, Tree: trees[7]}} {
			bad = append(bad, badSet{"a number of ways out of range", r, ways, api.ErrRange})
		}
	}
	for ways := 1; ways <= api.MaxWays; ways++ {
		for _, tree := range trees {
			if plru.Check(tree, ways) == api.OK {
				continue
			}
			bad = append(bad, badSet{"an unused bit", set(ways, 1, tree), ways, api.ErrForm})
			r := set(ways, 1, tree)
			r.Ways[0].At = 5
			bad = append(bad, badSet{"an unused bit and a bad state", r, ways, api.ErrForm})
		}
	}
	return bad
}

// badNumbers are sets with too many or too few ways, also with a way that has an error by itself.
func badNumbers() []badSet {
	var bad []badSet
	for ways := 1; ways <= api.MaxWays; ways++ {
		for n := range 7 {
			if n == ways {
				continue
			}
			bad = append(bad, badSet{"a wrong number of ways", api.Row{Ways: make([]api.Way, n)}, ways, api.ErrForm})
			r := api.Row{Ways: make([]api.Way, n)}
			for i := range r.Ways {
				r.Ways[i] = api.Way{At: 5, Line: -1}
			}
			bad = append(bad, badSet{"a wrong number of bad ways", r, ways, api.ErrForm})
		}
		bad = append(bad, badSet{"nil", api.Row{}, ways, api.ErrForm})
	}
	// The capacity of a slice is no part of the set.
	return append(bad, badSet{"ways beyond the length", api.Row{Ways: make([]api.Way, 2, 4)}, 4, api.ErrForm})
}

// badParts are sets of which one way has an error by itself, in every place.
func badParts() []badSet {
	var bad []badSet
	add := func(name string, x api.Way, want api.Errno) {
		for i := range api.MaxWays {
			bad = append(bad, badSet{name, with(set(api.MaxWays, 15, api.Tree{}), i, x), api.MaxWays, want})
			bad = append(bad, badSet{name, with(set(api.MaxWays, 0, api.Tree{}), i, x), api.MaxWays, want})
		}
	}
	for _, s := range badStates {
		add("what is not a state", api.Way{At: s}, api.ErrRange)
		add("what is not a state, with contents", way(s, 3), api.ErrRange)
	}
	for _, line := range badLines {
		for _, s := range held {
			add("what is not a line", api.Way{At: s, Line: line}, api.ErrRange)
		}
		add("what is not a line, in state I", api.Way{Line: line}, api.ErrRange)
		add("what is not a line, in state I, with data", api.Way{Line: line, Data: api.Line{1}}, api.ErrRange)
	}
	for line := 1; line < api.Lines; line++ {
		add("a line in state I", api.Way{Line: line}, api.ErrForm)
	}
	for k := range api.Words {
		for _, v := range []uint64{1, 1 << 32, 1 << 63, math.MaxUint64} {
			x := api.Way{}
			x.Data[k] = v
			add("data in state I", x, api.ErrForm)
		}
	}
	return bad
}

// badOrders are sets with two errors, of which the earlier way's comes first.
func badOrders() []badSet {
	noState, noLine, notEmpty, zero := api.Way{At: 5}, api.Way{At: api.S, Line: -1}, api.Way{Line: 1}, way(api.S, 0)
	var bad []badSet
	for _, x := range []struct {
		ways []api.Way
		want api.Errno
	}{
		{[]api.Way{noState, notEmpty}, api.ErrRange},
		{[]api.Way{noLine, notEmpty}, api.ErrRange},
		{[]api.Way{notEmpty, noState}, api.ErrForm},
		{[]api.Way{notEmpty, noLine}, api.ErrForm},
		{[]api.Way{zero, zero, noState}, api.ErrThere},
		{[]api.Way{zero, zero, noLine}, api.ErrThere},
		{[]api.Way{zero, zero, notEmpty}, api.ErrThere},
		{[]api.Way{noState, zero, zero}, api.ErrRange},
		{[]api.Way{noLine, zero, zero}, api.ErrRange},
		{[]api.Way{notEmpty, zero, zero}, api.ErrForm},
		{[]api.Way{zero, noState, zero}, api.ErrRange},
		{[]api.Way{zero, notEmpty, zero}, api.ErrForm},
		// A line out of range that is there twice is an error of its first way.
		{[]api.Way{noLine, noLine}, api.ErrRange},
	} {
		bad = append(bad, badSet{"two errors", api.Row{Ways: x.ways}, len(x.ways), x.want})
	}
	return bad
}

func TestP50BadSets(t *testing.T) {
	for _, b := range badSets() {
		before := clone(b.r)
		if e := row.Check(b.r, b.ways); e != b.want {
			t.Errorf("%s: Check(%v, %d) = %d, want %d", b.name, b.r, b.ways, e, b.want)
		}
		if !reflect.DeepEqual(b.r.Ways, before.Ways) && len(b.r.Ways) > 0 {
			t.Errorf("%s: Check has changed %v to %v", b.name, before, b.r)
		}
	}
}

// The error of Check comes before any error of the other arguments, and nothing else comes with it.
func TestP50OtherFunctionsReturnTheErrorOfCheckFirst(t *testing.T) {
	for _, b := range badSets() {
		for _, line := range []int{0, 3, 5, -1, api.Lines} {
			if i, e := row.Find(b.r, b.ways, line); i != 0 || e != b.want {
				t.Errorf("%s: Find(%v, %d, %d) = %d, %d, want error %d", b.name, b.r, b.ways, line, i, e, b.want)
			}
			if r, x, e := row.Take(b.r, b.ways, line); !isZero(r) || x != (api.Way{}) || e != b.want {
				t.Errorf("%s: Take(%v, %d, %d) = %v, %v, %d, want error %d", b.name, b.r, b.ways, line, r, x, e, b.want)
			}
			for _, x := range []api.Way{way(api.M, line), way(api.I, line), way(5, line)} {
				if r, old, e := row.Put(b.r, b.ways, x); !isZero(r) || old != (api.Way{}) || e != b.want {
					t.Errorf("%s: Put(%v, %d, %v) = %v, %v, %d, want error %d", b.name, b.r, b.ways, x, r, old, e, b.want)
				}
				if r, e := row.Set(b.r, b.ways, x); !isZero(r) || e != b.want {
					t.Errorf("%s: Set(%v, %d, %v) = %v, %d, want error %d", b.name, b.r, b.ways, x, r, e, b.want)
				}
			}
		}
	}
}

func isZero(r api.Row) bool { return len(r.Ways) == 0 && r.Tree == (api.Tree{}) }

func TestP51Find(t *testing.T) {
	eachSet(func(r api.Row, ways int) {
		for line := -2; line < api.Lines+2; line++ {
			if i, e := row.Find(r, ways, line); i != at(r, line) || e != api.OK {
				t.Errorf("Find(%v, %d, %d) = %d, %d, want %d", r, ways, line, i, e, at(r, line))
			}
		}
		for _, line := range badLines {
			if i, e := row.Find(r, ways, line); i != -1 || e != api.OK {
				t.Errorf("Find(%v, %d, %d) = %d, %d, want -1", r, ways, line, i, e)
			}
		}
	})
}

func TestP51FindPassesOverEmptyWays(t *testing.T) {
	empty := api.Row{Ways: make([]api.Way, 3)}
	if i, e := row.Find(empty, 3, 0); i != -1 || e != api.OK {
		t.Errorf("line 0 in an empty set: %d, %d", i, e)
	}
	if i, e := row.Find(with(empty, 2, way(api.E, 0)), 3, 0); i != 2 || e != api.OK {
		t.Errorf("line 0 behind empty ways: %d, %d", i, e)
	}
}

func TestP51PutTakesTheFirstEmptyWayOrTheVictim(t *testing.T) {
	eachSet(func(r api.Row, ways int) {
		i := slices.IndexFunc(r.Ways, func(x api.Way) bool { return x.At == api.I })
		if i < 0 {
			i, _ = plru.Victim(r.Tree, ways)
		}
		for line := range api.Lines {
			if at(r, line) >= 0 {
				continue
			}
			for _, s := range held {
				x := way(s, line)
				want := touched(t, with(r, i, x), ways, i)
				got, old, e := row.Put(r, ways, x)
				if e != api.OK || !reflect.DeepEqual(got, want) || old != r.Ways[i] {
					t.Errorf("Put(%v, %d, %v) = %v, %v, %d, want %v, %v", r, ways, x, got, old, e, want, r.Ways[i])
				}
			}
		}
	})
}

// The tree leads to way 1, which is full: the empty way is taken nevertheless.
func TestP51PutPrefersAnEmptyWayToTheVictim(t *testing.T) {
	r := api.Row{Ways: []api.Way{{}, way(api.M, 4)}, Tree: api.Tree{Top: true}}
	want := api.Row{Ways: []api.Way{way(api.S, 7), way(api.M, 4)}, Tree: api.Tree{Top: true}}
	if got, old, e := row.Put(r, 2, way(api.S, 7)); e != api.OK || old != (api.Way{}) || !reflect.DeepEqual(got, want) {
		t.Errorf("Put = %v, %v, %d, want %v", got, old, e, want)
	}
}

// A set of four ways that has been filled in order evicts in the order of the tree.
func TestP51PutIntoAFullSet(t *testing.T) {
	r := api.Row{Ways: make([]api.Way, 4)}
	wantOld := []api.Way{{}, {}, {}, {}, way(api.S, 0), way(api.S, 2), way(api.S, 1), way(api.S, 3), way(api.S, 4)}
	for line, want := range wantOld {
		next, old, e := row.Put(r, 4, way(api.S, line))
		if e != api.OK || old != want {
			t.Fatalf("Put of line %d returned %v, %d, want %v", line, old, e, want)
		}
		r = next
	}
}

func TestP51PutIntoOneWay(t *testing.T) {
	r, old, e := row.Put(api.Row{Ways: make([]api.Way, 1)}, 1, way(api.M, 3))
	if e != api.OK || old != (api.Way{}) {
		t.Errorf("first Put: %v, %d", old, e)
	}
	r, old, e = row.Put(r, 1, way(api.S, 9))
	if want := []api.Way{way(api.S, 9)}; e != api.OK || old != way(api.M, 3) || !slices.Equal(r.Ways, want) || r.Tree != (api.Tree{}) {
		t.Errorf("second Put: %v, %v, %d", r, old, e)
	}
}

// The data of a new way may be anything, and is kept to the bit.
func TestP51PutAndSetKeepTheData(t *testing.T) {
	for _, data := range []api.Line{{}, {1}, {3: 1}, {math.MaxUint64, math.MaxUint64, math.MaxUint64, math.MaxUint64}} {
		x := api.Way{At: api.O, Line: 15, Data: data}
		if r, _, e := row.Put(set(2, 1, api.Tree{}), 2, x); e != api.OK || r.Ways[1] != x {
			t.Errorf("Put(%v) = %v, %d", x, r, e)
		}
		if r, e := row.Set(set(4, 15, api.Tree{}), 4, x); e != api.OK || r.Ways[3] != x {
			t.Errorf("Set(%v) = %v, %d", x, r, e)
		}
	}
}

func TestP51Take(t *testing.T) {
	eachSet(func(r api.Row, ways int) {
		for line := -2; line < api.Lines+2; line++ {
			got, old, e := row.Take(r, ways, line)
			i := at(r, line)
			if i < 0 {
				if !isZero(got) || old != (api.Way{}) || e != api.ErrNone {
					t.Errorf("Take(%v, %d, %d) = %v, %v, %d, want ErrNone", r, ways, line, got, old, e)
				}
				continue
			}
			want := with(r, i, api.Way{})
			if e != api.OK || old != r.Ways[i] || !reflect.DeepEqual(got, want) {
				t.Errorf("Take(%v, %d, %d) = %v, %v, %d, want %v, %v", r, ways, line, got, old, e, want, r.Ways[i])
			}
			if e := row.Check(got, ways); e != api.OK {
				t.Errorf("Take(%v, %d, %d) left a set with error %d", r, ways, line, e)
			}
		}
		for _, line := range badLines {
			if got, old, e := row.Take(r, ways, line); !isZero(got) || old != (api.Way{}) || e != api.ErrNone {
				t.Errorf("Take(%v, %d, %d) = %v, %v, %d, want ErrNone", r, ways, line, got, old, e)
			}
		}
	})
}

func TestP51Set(t *testing.T) {
	eachSet(func(r api.Row, ways int) {
		for line := range api.Lines {
			for _, s := range held {
				x := api.Way{At: s, Line: line, Data: api.Line{7, 8, 9, uint64(s)}}
				got, e := row.Set(r, ways, x)
				i := at(r, line)
				if i < 0 {
					if !isZero(got) || e != api.ErrNone {
						t.Errorf("Set(%v, %d, %v) = %v, %d, want ErrNone", r, ways, x, got, e)
					}
					continue
				}
				want := touched(t, with(r, i, x), ways, i)
				if e != api.OK || !reflect.DeepEqual(got, want) {
					t.Errorf("Set(%v, %d, %v) = %v, %d, want %v", r, ways, x, got, e, want)
				}
			}
		}
	})
}

func TestP51PutOfALineThatIsThere(t *testing.T) {
	eachSet(func(r api.Row, ways int) {
		for _, there := range r.Ways {
			if there.At == api.I {
				continue
			}
			for _, s := range held {
				x := api.Way{At: s, Line: there.Line}
				if got, old, e := row.Put(r, ways, x); !isZero(got) || old != (api.Way{}) || e != api.ErrThere {
					t.Errorf("Put(%v, %d, %v) = %v, %v, %d, want ErrThere", r, ways, x, got, old, e)
				}
			}
		}
	})
}

// ErrRange comes before ErrThere and ErrNone: the sets have line 0 or 5, or none of them.
func TestP51BadWays(t *testing.T) {
	var bad []api.Way
	for _, line := range []int{0, 3, 5} {
		for _, s := range append([]api.State{api.I}, badStates...) {
			bad = append(bad, way(s, line), api.Way{At: s, Line: line})
		}
	}
	for _, line := range badLines {
		for _, s := range append([]api.State{api.I, 5}, held...) {
			bad = append(bad, api.Way{At: s, Line: line})
		}
	}
	eachSet(func(r api.Row, ways int) {
		for _, x := range bad {
			if got, old, e := row.Put(r, ways, x); !isZero(got) || old != (api.Way{}) || e != api.ErrRange {
				t.Errorf("Put(%v, %d, %v) = %v, %v, %d, want ErrRange", r, ways, x, got, old, e)
			}
			if got, e := row.Set(r, ways, x); !isZero(got) || e != api.ErrRange {
				t.Errorf("Set(%v, %d, %v) = %v, %d, want ErrRange", r, ways, x, got, e)
			}
		}
	})
}

// The ways of the sets are the middle of a longer slice, so that a write beyond their ends would be seen.
func TestP51TheSetThatWasPassedInIsUnchanged(t *testing.T) {
	eachSet(func(r api.Row, ways int) {
		guard := way(api.M, 12)
		memory := slices.Concat([]api.Way{guard}, r.Ways, []api.Way{guard, guard})
		before := slices.Clone(memory)
		r.Ways = memory[1 : 1+ways]
		for _, line := range []int{0, 5, 10, 15, 1, -1} {
			put, _, _ := row.Put(r, ways, way(api.S, line))
			take, _, _ := row.Take(r, ways, line)
			replaced, _ := row.Set(r, ways, way(api.S, line))
			row.Find(r, ways, line)
			row.Check(r, ways)
			if !slices.Equal(memory, before) {
				t.Fatalf("line %d has changed %v to %v", line, before, memory)
			}
			for _, got := range []api.Row{put, take, replaced} {
				clear(got.Ways[:cap(got.Ways)])
			}
			if !slices.Equal(memory, before) {
				t.Fatalf("a result for line %d shares memory with the argument", line)
			}
		}
	})
}

// A later change of the argument is not visible in a result.
func TestP51ResultsAreNewMemory(t *testing.T) {
	r := set(2, 3, api.Tree{})
	put, old, _ := row.Put(r, 2, way(api.S, 7))
	take, took, _ := row.Take(r, 2, 5)
	replaced, _ := row.Set(r, 2, way(api.S, 5))
	full := set(2, 3, api.Tree{})
	clear(r.Ways)
	if old != full.Ways[0] || took != full.Ways[1] {
		t.Errorf("previous contents are %v and %v", old, took)
	}
	if put.Ways[1] != full.Ways[1] || take.Ways[0] != full.Ways[0] || replaced.Ways[0] != full.Ways[0] {
		t.Errorf("sets are %v, %v and %v", put, take, replaced)
	}
}
