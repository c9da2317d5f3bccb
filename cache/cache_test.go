package cache_test

import (
	"math"
	"reflect"
	"slices"
	"testing"

	"ringdove/api"
	"ringdove/cache"
	"ringdove/plru"
	"ringdove/row"
)

var held = []api.State{api.S, api.E, api.O, api.M}

var badStates = []api.State{math.MinInt, -256, -1, 5, 6, 256, 1 << 32, math.MaxInt}

var badLines = []int{math.MinInt, -16, -4, -1, api.Lines, api.Lines + 1, 20, 256, 1 << 32, math.MaxInt}

var trees = []api.Tree{
	{}, {High: true}, {Low: true}, {Low: true, High: true},
	{Top: true}, {Top: true, High: true}, {Top: true, Low: true}, {Top: true, Low: true, High: true},
}

// four is the configuration in which a full cache has all lines.
var four = api.Config{Nodes: 2, Sets: 4, Ways: 4, Banks: 1}

// way returns a way that differs from all others in every word.
func way(at api.State, line int) api.Way {
	n := uint64(line)
	return api.Way{At: at, Line: line, Data: api.Line{n + 1, n + 20, math.MaxUint64 - n, n << 50}}
}

// clone returns a cache that shares no memory with h, to compare h with later.
func clone(h api.Cache) api.Cache {
	next := slices.Clone(h)
	for i := range next {
		next[i].Ways = slices.Clone(next[i].Ways)
	}
	return next
}

// eachConfig calls f with every number of sets and ways. The numbers of nodes and banks have no effect on caches.
func eachConfig(f func(c api.Config)) {
	for _, sets := range []int{1, 2, 4} {
		for ways := 1; ways <= api.MaxWays; ways++ {
			f(api.Config{Nodes: 2, Sets: sets, Ways: ways, Banks: 1})
			f(api.Config{Nodes: api.MaxNodes, Sets: sets, Ways: ways, Banks: 4})
		}
	}
}

// goodTrees are the trees that a set of this number of ways may have.
func goodTrees(ways int) []api.Tree {
	return slices.DeleteFunc(slices.Clone(trees), func(t api.Tree) bool { return plru.Check(t, ways) != api.OK })
}

// lineAt is the line that the filled caches have in a way. It decreases from way to way, so that an order by lines would be seen.
func lineAt(c api.Config, set, way int) int { return set + (c.Ways-1-way)*c.Sets }

// filled returns a cache in which set i has the ways whose bit is 1 in full(i), and its own tree.
func filled(c api.Config, full func(i int) int, seed int) api.Cache {
	h := make(api.Cache, c.Sets)
	trees := goodTrees(c.Ways)
	for i := range h {
		h[i] = api.Row{Ways: make([]api.Way, c.Ways), Tree: trees[(seed+i)%len(trees)]}
		for k := range h[i].Ways {
			if full(i)>>k&1 == 1 {
				h[i].Ways[k] = way(held[(i+k+seed)%len(held)], lineAt(c, i, k))
			}
		}
	}
	return h
}

func fullCache(c api.Config) api.Cache { return filled(c, func(int) int { return 15 }, 0) }

// eachCache calls f with caches of every configuration: empty ones, full ones, and ones whose sets are filled differently.
func eachCache(f func(c api.Config, h api.Cache)) {
	eachConfig(func(c api.Config) {
		for seed := range 8 {
			f(c, filled(c, func(int) int { return 0 }, seed))
			f(c, filled(c, func(int) int { return 15 }, seed))
			for mask := range 1 << c.Ways {
				f(c, filled(c, func(i int) int { return mask + 5*i }, seed))
			}
		}
	})
}

// with returns the cache in which one way is x.
func with(h api.Cache, set, k int, x api.Way) api.Cache {
	h = clone(h)
	h[set].Ways[k] = x
	return h
}

// withRow returns the cache in which one set is r.
func withRow(h api.Cache, set int, r api.Row) api.Cache {
	h = clone(h)
	h[set] = r
	return h
}

// there returns the way that contains the line, by a search of the whole cache.
func there(h api.Cache, line int) (api.Way, bool) {
	for _, r := range h {
		for _, x := range r.Ways {
			if x.At != api.I && x.Line == line {
				return x, true
			}
		}
	}
	return api.Way{}, false
}

func TestP60New(t *testing.T) {
	eachConfig(func(c api.Config) {
		h, e := cache.New(c)
		if e != api.OK || len(h) != c.Sets || cache.Check(c, h) != api.OK {
			t.Fatalf("New(%+v) = %v, %d", c, h, e)
		}
		for _, r := range h {
			if !reflect.DeepEqual(r, api.Row{Ways: make([]api.Way, c.Ways)}) {
				t.Errorf("New(%+v) has the set %v", c, r)
			}
		}
	})
}

// A change of one set is not visible in the others, nor in the next new cache.
func TestP60NewIsNewMemory(t *testing.T) {
	h, _ := cache.New(four)
	again, _ := cache.New(four)
	for i := range h {
		whole := h[i].Ways[:cap(h[i].Ways)]
		for k := range whole {
			whole[k] = way(api.M, i)
		}
	}
	for i := range h {
		if h[i].Ways[0].Line != i || again[i].Ways[0] != (api.Way{}) {
			t.Errorf("set %d is %v in one cache and %v in the other one", i, h[i], again[i])
		}
	}
}

func badConfigs() []api.Config {
	good := api.Config{Nodes: 4, Sets: 2, Ways: 2, Banks: 2}
	bad := []api.Config{{}}
	for _, n := range []int{math.MinInt, -1, 0, 9, 16, math.MaxInt} {
		for field := range 4 {
			c := good
			*[]*int{&c.Nodes, &c.Sets, &c.Ways, &c.Banks}[field] = n
			bad = append(bad, c)
		}
	}
	one, three, five := good, good, good
	one.Nodes, three.Sets, five.Ways = 1, 3, 5
	return append(bad, one, three, five)
}

func TestP60NewOfABadConfiguration(t *testing.T) {
	for _, c := range badConfigs() {
		if h, e := cache.New(c); len(h) != 0 || e != api.ErrRange {
			t.Errorf("New(%+v) = %v, %d, want ErrRange", c, h, e)
		}
	}
}

func TestP60GoodCaches(t *testing.T) {
	eachCache(func(c api.Config, h api.Cache) {
		if e := cache.Check(c, h); e != api.OK {
			t.Errorf("Check(%+v, %v) = %d", c, h, e)
		}
	})
}

// Every line is in order in one set alone. An empty way has Line 0 in every set, but it does not contain line 0.
func TestP60EveryLineInEverySet(t *testing.T) {
	eachConfig(func(c api.Config) {
		for line := range api.Lines {
			for i := range c.Sets {
				for k := range c.Ways {
					h := with(filled(c, func(int) int { return 0 }, 0), i, k, way(held[line%len(held)], line))
					want := api.OK
					if (line-i)%c.Sets != 0 {
						want = api.ErrForm
					}
					if e := cache.Check(c, h); e != want {
						t.Errorf("Check(%+v, %v) = %d, want %d", c, h, e, want)
					}
				}
			}
		}
	})
}

// badCache is a cache with an error of Check.
type badCache struct {
	name string
	c    api.Config
	h    api.Cache
	want api.Errno
}

func badCaches() []badCache {
	return slices.Concat(badByConfig(), badNumbers(), badSets(), badPlaces(), badOrders())
}

// badByConfig are errors of addr.Check, with caches that have no error and with ones whose error comes later.
func badByConfig() []badCache {
	var bad []badCache
	for _, c := range badConfigs() {
		for _, h := range []api.Cache{nil, {}, {{}}, fullCache(api.Config{Nodes: 4, Sets: 2, Ways: 2, Banks: 2}), make(api.Cache, 3)} {
			bad = append(bad, badCache{"a bad configuration", c, h, api.ErrRange})
		}
	}
	return bad
}

// badNumbers are caches with too many or too few sets, also with sets that have an error by themselves.
func badNumbers() []badCache {
	var bad []badCache
	eachConfig(func(c api.Config) {
		for n := range 7 {
			if n == c.Sets {
				continue
			}
			empty, wrong := make(api.Cache, n), make(api.Cache, n)
			for i := range n {
				empty[i].Ways = make([]api.Way, c.Ways)
				wrong[i].Ways = slices.Repeat([]api.Way{{At: 5, Line: -1}}, c.Ways)
			}
			bad = append(bad, badCache{"a wrong number of sets", c, empty, api.ErrForm})
			bad = append(bad, badCache{"a wrong number of bad sets", c, wrong, api.ErrForm})
		}
		bad = append(bad, badCache{"nil", c, nil, api.ErrForm})
		// The capacity of a slice is no part of the cache.
		bad = append(bad, badCache{"sets beyond the length", c, fullCache(c)[:c.Sets-1], api.ErrForm})
	})
	return bad
}

// badSets are caches of which one set has an error of row.Check, in every place.
func badSets() []badCache {
	var bad []badCache
	eachConfig(func(c api.Config) {
		h := fullCache(c)
		for i := range c.Sets {
			add := func(name string, h api.Cache, want api.Errno) { bad = append(bad, badCache{name, c, h, want}) }
			for _, tree := range trees {
				if plru.Check(tree, c.Ways) != api.OK {
					add("an unused bit", withRow(h, i, api.Row{Ways: h[i].Ways, Tree: tree}), api.ErrForm)
				}
			}
			add("a set without ways", withRow(h, i, api.Row{}), api.ErrForm)
			add("a way too few", withRow(h, i, api.Row{Ways: h[i].Ways[:c.Ways-1]}), api.ErrForm)
			add("a way too many", withRow(h, i, api.Row{Ways: make([]api.Way, c.Ways+1)}), api.ErrForm)
			for k := range c.Ways {
				for _, s := range badStates {
					add("what is not a state", with(h, i, k, api.Way{At: s, Line: lineAt(c, i, k)}), api.ErrRange)
				}
				for _, line := range badLines {
					add("what is not a line", with(h, i, k, api.Way{At: api.M, Line: line}), api.ErrRange)
					add("what is not a line, in state I", with(h, i, k, api.Way{Line: line}), api.ErrRange)
				}
				add("a line in state I", with(h, i, k, api.Way{Line: i + c.Sets}), api.ErrForm)
				add("data in state I", with(h, i, k, api.Way{Data: api.Line{3: 1}}), api.ErrForm)
				for j := range k {
					add("a line that is there twice", with(h, i, k, h[i].Ways[j]), api.ErrThere)
				}
			}
		}
	})
	return bad
}

// badPlaces are caches of which one way has a line of a different set, also one that its own set has.
func badPlaces() []badCache {
	var bad []badCache
	eachConfig(func(c api.Config) {
		for _, h := range []api.Cache{fullCache(c), filled(c, func(int) int { return 0 }, 3)} {
			for i := range c.Sets {
				for k := range c.Ways {
					for line := range api.Lines {
						if line%c.Sets != i {
							bad = append(bad, badCache{"a line of a different set", c, with(h, i, k, way(api.E, line)), api.ErrForm})
						}
					}
				}
			}
		}
	})
	return bad
}

// badOrders are caches with two errors. A set's lines come after the rest of this set, and before the next set.
func badOrders() []badCache {
	c := api.Config{Nodes: 3, Sets: 2, Ways: 2, Banks: 2}
	noState, noLine, notEmpty := api.Way{At: 5}, api.Way{At: api.S, Line: -1}, api.Way{Line: 1}
	zero, one, two, three := way(api.S, 0), way(api.S, 1), way(api.S, 2), way(api.S, 3)
	good, odd, repeated := []api.Way{zero, two}, []api.Way{one, three}, []api.Way{zero, zero}
	var bad []badCache
	for _, x := range []struct {
		first, second []api.Way
		want          api.Errno
	}{
		{[]api.Way{one, noState}, odd, api.ErrRange},
		{[]api.Way{one, noLine}, odd, api.ErrRange},
		{[]api.Way{one, one}, odd, api.ErrThere},
		{good, []api.Way{zero, noState}, api.ErrRange},
		{good, []api.Way{zero, zero}, api.ErrThere},
		{good, []api.Way{two, {}}, api.ErrForm},
		{[]api.Way{one, two}, []api.Way{noState, {}}, api.ErrForm},
		{[]api.Way{two, one}, []api.Way{noLine, {}}, api.ErrForm},
		{[]api.Way{two, one}, []api.Way{three, three}, api.ErrForm},
		{[]api.Way{notEmpty, {}}, []api.Way{noState, {}}, api.ErrForm},
		{[]api.Way{two}, []api.Way{noState, {}}, api.ErrForm},
		{[]api.Way{noState, {}}, good, api.ErrRange},
		{[]api.Way{noLine, {}}, []api.Way{one}, api.ErrRange},
		{repeated, good, api.ErrThere},
		{repeated, []api.Way{noState, {}}, api.ErrThere},
		{odd, good, api.ErrForm},
	} {
		bad = append(bad, badCache{"two errors", c, api.Cache{{Ways: x.first}, {Ways: x.second}}, x.want})
	}
	return bad
}

func TestP60BadCaches(t *testing.T) {
	for _, b := range badCaches() {
		before := clone(b.h)
		if e := cache.Check(b.c, b.h); e != b.want {
			t.Errorf("%s: Check(%+v, %v) = %d, want %d", b.name, b.c, b.h, e, b.want)
		}
		if !reflect.DeepEqual(clone(b.h), before) {
			t.Errorf("%s: Check has changed %v to %v", b.name, before, b.h)
		}
	}
}

// The error of Check comes before any error of the other arguments, and nothing else comes with it.
func TestP60OtherFunctionsReturnTheErrorOfCheckFirst(t *testing.T) {
	for _, b := range badCaches() {
		if l, e := cache.Lines(b.c, b.h); len(l) != 0 || e != b.want {
			t.Errorf("%s: Lines(%+v, %v) = %v, %d, want error %d", b.name, b.c, b.h, l, e, b.want)
		}
		for _, line := range []int{0, 3, -1, api.Lines} {
			if x, is, e := cache.Find(b.c, b.h, line); x != (api.Way{}) || is || e != b.want {
				t.Errorf("%s: Find(%+v, %v, %d) = %v, %t, %d, want error %d", b.name, b.c, b.h, line, x, is, e, b.want)
			}
			if h, x, e := cache.Take(b.c, b.h, line); len(h) != 0 || x != (api.Way{}) || e != b.want {
				t.Errorf("%s: Take(%+v, %v, %d) = %v, %v, %d, want error %d", b.name, b.c, b.h, line, h, x, e, b.want)
			}
			for _, at := range []api.State{api.M, api.I, 5} {
				if h, x, e := cache.Put(b.c, b.h, way(at, line)); len(h) != 0 || x != (api.Way{}) || e != b.want {
					t.Errorf("%s: Put(%+v, %v, %d in %d) = %v, %v, %d, want error %d", b.name, b.c, b.h, line, at, h, x, e, b.want)
				}
				if h, e := cache.Set(b.c, b.h, way(at, line)); len(h) != 0 || e != b.want {
					t.Errorf("%s: Set(%+v, %v, %d in %d) = %v, %d, want error %d", b.name, b.c, b.h, line, at, h, e, b.want)
				}
			}
		}
	}
}

func TestP61Find(t *testing.T) {
	eachCache(func(c api.Config, h api.Cache) {
		for line := range api.Lines {
			want, wantIs := there(h, line)
			if x, is, e := cache.Find(c, h, line); x != want || is != wantIs || e != api.OK {
				t.Errorf("Find(%+v, %v, %d) = %v, %t, %d, want %v, %t", c, h, line, x, is, e, want, wantIs)
			}
		}
		for _, line := range badLines {
			if x, is, e := cache.Find(c, h, line); x != (api.Way{}) || is || e != api.ErrRange {
				t.Errorf("Find(%+v, %v, %d) = %v, %t, %d, want ErrRange", c, h, line, x, is, e)
			}
		}
	})
}

func TestP61Put(t *testing.T) {
	eachCache(func(c api.Config, h api.Cache) {
		for line := range api.Lines {
			x := way(held[line%len(held)], line)
			r, wantOld, wantE := row.Put(h[line%c.Sets], c.Ways, x)
			got, old, e := cache.Put(c, h, x)
			if old != wantOld || e != wantE {
				t.Errorf("Put(%+v, %v, %v) = %v, %v, %d, want %v, %d", c, h, x, got, old, e, wantOld, wantE)
			}
			expect(t, c, h, line, got, r, e)
			if _, is := there(h, line); is != (e == api.ErrThere) {
				t.Errorf("Put(%+v, %v, %v): error %d", c, h, x, e)
			}
		}
	})
}

func TestP61Take(t *testing.T) {
	eachCache(func(c api.Config, h api.Cache) {
		for line := range api.Lines {
			r, _, _ := row.Take(h[line%c.Sets], c.Ways, line)
			got, old, e := cache.Take(c, h, line)
			wantOld, is := there(h, line)
			if old != wantOld || is != (e == api.OK) || !is && e != api.ErrNone {
				t.Errorf("Take(%+v, %v, %d) = %v, %v, %d, want %v", c, h, line, got, old, e, wantOld)
			}
			expect(t, c, h, line, got, r, e)
		}
		for _, line := range badLines {
			if got, old, e := cache.Take(c, h, line); len(got) != 0 || old != (api.Way{}) || e != api.ErrRange {
				t.Errorf("Take(%+v, %v, %d) = %v, %v, %d, want ErrRange", c, h, line, got, old, e)
			}
		}
	})
}

func TestP61Set(t *testing.T) {
	eachCache(func(c api.Config, h api.Cache) {
		for line := range api.Lines {
			x := api.Way{At: held[line%len(held)], Line: line, Data: api.Line{7, 8, 9, math.MaxUint64}}
			r, _ := row.Set(h[line%c.Sets], c.Ways, x)
			got, e := cache.Set(c, h, x)
			if _, is := there(h, line); is != (e == api.OK) || !is && e != api.ErrNone {
				t.Errorf("Set(%+v, %v, %v) = %v, %d", c, h, x, got, e)
			}
			expect(t, c, h, line, got, r, e)
		}
	})
}

// expect compares the result of a change with h in which the set of the line is r, or with nothing if there is an error.
func expect(t *testing.T, c api.Config, h api.Cache, line int, got api.Cache, r api.Row, e api.Errno) {
	t.Helper()
	if e != api.OK {
		if len(got) != 0 {
			t.Errorf("line %d of %v: %v with error %d", line, h, got, e)
		}
		return
	}
	if want := withRow(h, line%c.Sets, r); !reflect.DeepEqual(got, want) {
		t.Errorf("line %d of %v: %v, want %v", line, h, got, want)
	}
	if e := cache.Check(c, got); e != api.OK {
		t.Errorf("line %d of %v left a cache with error %d", line, h, e)
	}
}

// ErrRange comes before ErrThere and ErrNone: some of the caches have the lines, and some do not.
func TestP61BadWays(t *testing.T) {
	var bad []api.Way
	for _, line := range []int{0, 1, 5, 15} {
		for _, s := range append([]api.State{api.I}, badStates...) {
			bad = append(bad, way(s, line))
		}
	}
	for _, line := range badLines {
		for _, s := range append([]api.State{api.I, 5}, held...) {
			bad = append(bad, api.Way{At: s, Line: line})
		}
	}
	bad = append(bad, api.Way{})
	eachCache(func(c api.Config, h api.Cache) {
		for _, x := range bad {
			if got, old, e := cache.Put(c, h, x); len(got) != 0 || old != (api.Way{}) || e != api.ErrRange {
				t.Errorf("Put(%+v, %v, %v) = %v, %v, %d, want ErrRange", c, h, x, got, old, e)
			}
			if got, e := cache.Set(c, h, x); len(got) != 0 || e != api.ErrRange {
				t.Errorf("Set(%+v, %v, %v) = %v, %d, want ErrRange", c, h, x, got, e)
			}
		}
	})
}

func TestP61Lines(t *testing.T) {
	eachCache(func(c api.Config, h api.Cache) {
		var want []api.Way
		for i := range c.Sets {
			for k := range c.Ways {
				if x := h[i].Ways[k]; x.At != api.I {
					want = append(want, x)
				}
			}
		}
		if got, e := cache.Lines(c, h); !slices.Equal(got, want) || e != api.OK {
			t.Errorf("Lines(%+v, %v) = %v, %d, want %v", c, h, got, e, want)
		}
	})
}

// The order is that of the sets and ways, neither that of the lines nor that of the accesses.
func TestP61LinesOfAFewPuts(t *testing.T) {
	c := api.Config{Nodes: 2, Sets: 2, Ways: 2, Banks: 1}
	h, _ := cache.New(c)
	for _, line := range []int{3, 8, 1, 2} {
		h, _, _ = cache.Put(c, h, way(api.S, line))
	}
	want := []api.Way{way(api.S, 8), way(api.S, 2), way(api.S, 3), way(api.S, 1)}
	if got, e := cache.Lines(c, h); !slices.Equal(got, want) || e != api.OK {
		t.Errorf("%v, %d, want %v", got, e, want)
	}
	if got, e := cache.Lines(c, h[:1]); len(got) != 0 || e != api.ErrForm {
		t.Errorf("%v, %d, want ErrForm", got, e)
	}
}

// A line evicts one of its own set only, even if the other sets are empty.
func TestP61PutEvictsFromItsOwnSet(t *testing.T) {
	c := api.Config{Nodes: 2, Sets: 2, Ways: 2, Banks: 1}
	h, _ := cache.New(c)
	for _, x := range []struct{ line, out int }{{2, -1}, {4, -1}, {6, 2}, {3, -1}, {8, 4}, {5, -1}, {7, 3}} {
		next, old, e := cache.Put(c, h, way(api.M, x.line))
		want := api.Way{}
		if x.out >= 0 {
			want = way(api.M, x.out)
		}
		if old != want || e != api.OK {
			t.Fatalf("Put of line %d = %v, %d, want %v", x.line, old, e, want)
		}
		h = next
	}
}

// The tree is kept with the set: Set is an access, and Take leaves a way that the next Put fills.
func TestP61SetAndTakeInSequence(t *testing.T) {
	c := api.Config{Nodes: 2, Sets: 2, Ways: 2, Banks: 1}
	h, _ := cache.New(c)
	h, _, _ = cache.Put(c, h, way(api.S, 1))
	h, _, _ = cache.Put(c, h, way(api.S, 3))
	h, e := cache.Set(c, h, way(api.M, 1))
	if x, is, f := cache.Find(c, h, 1); x != way(api.M, 1) || !is || e != api.OK || f != api.OK {
		t.Errorf("%v, %t, %d, %d", x, is, e, f)
	}
	h, old, e := cache.Put(c, h, way(api.E, 5))
	if old != way(api.S, 3) || e != api.OK {
		t.Errorf("line 5 evicted %v, %d, want line 3", old, e)
	}
	h, old, e = cache.Take(c, h, 1)
	if old != way(api.M, 1) || e != api.OK {
		t.Errorf("took %v, %d, want line 1", old, e)
	}
	if _, is, _ := cache.Find(c, h, 1); is {
		t.Error("line 1 is still there")
	}
	h, old, e = cache.Put(c, h, way(api.O, 7))
	if want := []api.Way{way(api.O, 7), way(api.E, 5)}; old != (api.Way{}) || e != api.OK || !slices.Equal(h[1].Ways, want) {
		t.Errorf("%v, %v, %d, want %v", h, old, e, want)
	}
}

// guarded returns a cache with the contents of h whose sets and ways are the middle of longer slices, and all that memory.
func guarded(h api.Cache) (api.Cache, api.Cache) {
	memory := make(api.Cache, len(h)+2)
	for i := range memory {
		r := api.Row{Tree: trees[5]}
		if i > 0 && i <= len(h) {
			r = h[i-1]
		}
		memory[i] = api.Row{Ways: slices.Concat(r.Ways, []api.Way{way(api.M, 12), way(api.M, 13)}), Tree: r.Tree}
	}
	inside := slices.Clone(memory)
	for i := range h {
		memory[i+1].Ways = inside[i+1].Ways[:len(h[i].Ways)]
	}
	return memory[1 : 1+len(h)], inside
}

// destroy writes over all memory of a result, as far as it has capacity.
func destroy(h api.Cache) {
	for i := range h {
		clear(h[i].Ways[:cap(h[i].Ways)])
	}
	clear(h[:cap(h)])
}

func TestP61TheCacheThatWasPassedInIsUnchanged(t *testing.T) {
	eachCache(func(c api.Config, h api.Cache) {
		arg, inside := guarded(h)
		whole, before := clone(arg[:cap(arg)]), clone(inside)
		for _, line := range []int{0, 1, 6, 15, -1} {
			put, _, _ := cache.Put(c, arg, way(api.S, line))
			take, _, _ := cache.Take(c, arg, line)
			replaced, _ := cache.Set(c, arg, way(api.S, line))
			lines, _ := cache.Lines(c, arg)
			cache.Find(c, arg, line)
			cache.Check(c, arg)
			if !reflect.DeepEqual(clone(arg[:cap(arg)]), whole) || !reflect.DeepEqual(inside, before) {
				t.Fatalf("line %d has changed %v to %v", line, before, inside)
			}
			for _, got := range []api.Cache{put, take, replaced} {
				destroy(got)
			}
			clear(lines[:cap(lines)])
			if !reflect.DeepEqual(clone(arg[:cap(arg)]), whole) || !reflect.DeepEqual(inside, before) {
				t.Fatalf("a result for line %d shares memory with the argument", line)
			}
		}
	})
}

// A later change of the argument is not visible in a result.
func TestP61ResultsKeepNoArgument(t *testing.T) {
	h := fullCache(four)
	full := clone(h)
	h, _, _ = cache.Take(four, h, 6)
	put, _, _ := cache.Put(four, h, full[2].Ways[2])
	take, _, _ := cache.Take(four, h, 1)
	replaced, _ := cache.Set(four, h, way(api.M, 1))
	lines, _ := cache.Lines(four, h)
	destroy(h)
	if !slices.Equal(put[3].Ways, full[3].Ways) || !slices.Equal(take[0].Ways, full[0].Ways) || !slices.Equal(replaced[3].Ways, full[3].Ways) {
		t.Errorf("caches are %v, %v and %v", put, take, replaced)
	}
	if len(lines) != api.Lines-1 || lines[0] != full[0].Ways[0] {
		t.Errorf("lines are %v", lines)
	}
}

// The sets of the argument may share their ways; those of a result do not.
func TestP61SetsOfAResultShareNoMemory(t *testing.T) {
	ways := make([]api.Way, 4)
	h := api.Cache{{Ways: ways}, {Ways: ways}, {Ways: ways}, {Ways: ways}}
	got, _, e := cache.Put(four, h, way(api.S, 2))
	if e != api.OK {
		t.Fatalf("error %d", e)
	}
	for i := range got {
		whole := got[i].Ways[:cap(got[i].Ways)]
		for k := range whole {
			whole[k] = way(api.M, i)
		}
	}
	for i := range got {
		if got[i].Ways[0].Line != i {
			t.Errorf("set %d is %v", i, got[i])
		}
	}
}
