package deed_test

import (
	"math"
	"slices"
	"strings"
	"testing"

	"ringdove/api"
	"ringdove/deed"
)

// eachShared visits three nodes that have the line in all states that may stand beside one another.
// The memory is older than data in state O or M, and then it is not.
func eachShared(c api.Config, line int, f func(at string, w api.World)) {
	for _, at := range shared {
		w := filled(c)
		spread(c, w, line, at)
		f(at, w)
		if strings.ContainsAny(at, "OM") {
			w = filled(c)
			w.Memory[line] = fresh
			spread(c, w, line, at)
			f(at, w)
		}
	}
}

func TestP100HitOfEachState(t *testing.T) {
	table := []struct {
		k    api.Kind
		want map[byte]bool
	}{
		{api.KLoad, map[byte]bool{'I': false, 'S': true, 'E': true, 'O': true, 'M': true}},
		{api.KStore, map[byte]bool{'I': false, 'S': false, 'E': true, 'O': false, 'M': true}},
		{api.KSwap, map[byte]bool{'I': false, 'S': false, 'E': true, 'O': false, 'M': true}},
		{api.KPut, map[byte]bool{'I': true, 'S': true, 'E': true, 'O': false, 'M': false}},
	}
	for line := range 16 {
		eachShared(three, line, func(at string, w api.World) {
			for _, x := range table {
				for node := range 3 {
					for word := range 4 {
						d := operation(node, x.k, 4*line+word, 9)
						if hit, e := deed.Hit(three, w, d); hit != x.want[at[node]] || e != api.OK {
							t.Errorf("%s: Hit(%+v) = %v, %d", at, d, hit, e)
						}
					}
				}
			}
		})
	}
}

// The hit is about the line of the address alone: the node has its neighbours in another state.
func TestP100HitOfTheLineOfTheAddress(t *testing.T) {
	for line := 1; line < 15; line++ {
		w := filled(eight)
		spread(eight, w, line-1, "IMI")
		spread(eight, w, line, "ISS")
		spread(eight, w, line+1, "IIE")
		for a := range 64 {
			load, e := deed.Hit(eight, w, api.Deed{Node: 1, Kind: api.KLoad, Addr: a})
			store, f := deed.Hit(eight, w, api.Deed{Node: 1, Kind: api.KStore, Addr: a})
			if load != (a/4 == line-1 || a/4 == line) || store != (a/4 == line-1) || e != api.OK || f != api.OK {
				t.Errorf("line %d, address %d: %v, %d and %v, %d", line, a, load, e, store, f)
			}
		}
	}
}

// badWorlds has, for configuration three, a state for each error of agree.Check.
func badWorlds() map[string]struct {
	c api.Config
	w api.World
	e api.Errno
} {
	good := filled(three)
	few := api.World{Caches: good.Caches[:2]}
	noState, there, stale, conflict := filled(three), filled(three), filled(three), filled(three)
	noState.Caches[2][1].Ways[1].At = 9
	there.Caches[1][0].Ways = []api.Way{{At: api.S, Line: 2}, {At: api.S, Line: 2}}
	add(three, stale, 0, api.Way{At: api.S, Line: 15, Data: fresh})
	spread(three, conflict, 15, "MSI")
	type bad = struct {
		c api.Config
		w api.World
		e api.Errno
	}
	return map[string]bad{
		"configuration":    {api.Config{}, good, api.ErrRange},
		"more sets":        {api.Config{Nodes: 3, Sets: 8, Ways: 2, Banks: 1}, good, api.ErrRange},
		"too many nodes":   {api.Config{Nodes: 9, Sets: 2, Ways: 2, Banks: 1}, good, api.ErrRange},
		"other sets":       {api.Config{Nodes: 3, Sets: 1, Ways: 2, Banks: 1}, good, api.ErrForm},
		"nothing":          {three, api.World{}, api.ErrForm},
		"too few caches":   {three, few, api.ErrForm},
		"no state":         {three, noState, api.ErrRange},
		"a line twice":     {three, there, api.ErrThere},
		"S without memory": {three, stale, api.ErrForm},
		"M beside S":       {three, conflict, api.ErrState},
	}
}

// wrong has operations for each error of atomic.Right, and for a node that configuration three does not have.
var wrong = []struct {
	d api.Deed
	e api.Errno
}{
	{api.Deed{Node: -1, Kind: api.KLoad}, api.ErrRange},
	{api.Deed{Node: math.MinInt, Kind: api.KPut}, api.ErrRange},
	{api.Deed{Node: 8, Kind: api.KLoad}, api.ErrRange},
	{api.Deed{Node: math.MaxInt, Kind: 7, Addr: 64}, api.ErrRange},
	{api.Deed{Node: 1}, api.ErrArg},
	{api.Deed{Node: 1, Kind: 5, Addr: 64, Value: 1}, api.ErrArg},
	{api.Deed{Node: 1, Kind: -1}, api.ErrArg},
	{api.Deed{Node: 1, Kind: api.KStore, Addr: 64}, api.ErrRange},
	{api.Deed{Node: 1, Kind: api.KLoad, Addr: -1, Value: 1}, api.ErrRange},
	{api.Deed{Node: 1, Kind: api.KPut, Addr: math.MaxInt}, api.ErrRange},
	{api.Deed{Node: 1, Kind: api.KLoad, Value: 1}, api.ErrForm},
	{api.Deed{Node: 1, Kind: api.KPut, Addr: 63, Value: math.MaxUint64}, api.ErrForm},
	{api.Deed{Node: 3, Kind: api.KLoad}, api.ErrRange},
	{api.Deed{Node: 3, Kind: api.KStore, Addr: 63, Value: 1}, api.ErrRange},
	{api.Deed{Node: 4, Kind: api.KSwap}, api.ErrRange},
	{api.Deed{Node: 7, Kind: api.KPut}, api.ErrRange},
	// The errors of atomic.Right come before that of a node that the configuration does not have.
	{api.Deed{Node: 3}, api.ErrArg},
	{api.Deed{Node: 7, Kind: 5, Addr: -1}, api.ErrArg},
	{api.Deed{Node: 3, Kind: api.KLoad, Value: 1}, api.ErrForm},
	{api.Deed{Node: 7, Kind: api.KPut, Value: 1}, api.ErrForm},
}

func TestP100WrongOperations(t *testing.T) {
	for _, at := range shared {
		w := filled(three)
		spread(three, w, 0, at)
		for _, x := range wrong {
			expectErrors(t, three, w, x.d, x.e)
		}
	}
}

// The state is examined before the operation, whether the operation has an error or not.
func TestP100StateBeforeOperation(t *testing.T) {
	for name, x := range badWorlds() {
		t.Run(name, func(t *testing.T) {
			for _, k := range kinds {
				expectErrors(t, x.c, x.w, api.Deed{Node: 1, Kind: k, Addr: 5}, x.e)
			}
			for _, y := range wrong {
				expectErrors(t, x.c, x.w, y.d, x.e)
			}
		})
	}
}

// The last node of a configuration is a node, and the next number is none.
func TestP100NodesOfTheConfiguration(t *testing.T) {
	eachConfig(func(c api.Config) {
		w := filled(c)
		for node := range 8 {
			for _, k := range kinds {
				d := api.Deed{Node: node, Kind: k, Addr: 63}
				switch {
				case node >= c.Nodes:
					expectErrors(t, c, w, d, api.ErrRange)
				case k != api.KPut:
					expectDo(t, c, w, d)
				}
			}
		}
	})
}

// Every operation, by every node, on a line in all states that may stand beside one another.
func TestP101EveryCombination(t *testing.T) {
	for _, line := range []int{0, 1, 6, 15} {
		eachShared(three, line, func(at string, w api.World) {
			for node := range 3 {
				for _, k := range kinds {
					for word := range 4 {
						d := operation(node, k, 4*line+word, 5)
						if k == api.KPut && at[node] == 'I' {
							expectError(t, three, w, d, api.ErrNone)
						} else {
							expectDo(t, three, w, d)
						}
					}
				}
			}
		})
	}
}

// The states are written out here, because the other tests compute what they expect.
func TestP101States(t *testing.T) {
	for _, x := range []struct {
		before               string
		node                 int
		load, write, put     string
		loadFrom, writesFrom int
	}{
		{"III", 1, "IEI", "IMI", "", -1, -1},
		{"SII", 0, "SII", "MII", "III", -1, -1},
		{"SII", 1, "SSI", "IMI", "", -1, -1},
		{"SSI", 2, "SSS", "IIM", "", -1, -1},
		{"SSS", 1, "SSS", "IMI", "SIS", -1, -1},
		{"EII", 0, "EII", "MII", "III", -1, -1},
		{"EII", 2, "SIS", "IIM", "", -1, -1},
		{"MII", 0, "MII", "MII", "III", -1, -1},
		{"MII", 1, "OSI", "IMI", "", 0, 0},
		{"IIM", 0, "SIO", "MII", "", 2, 2},
		{"OII", 0, "OII", "MII", "III", -1, -1},
		{"OII", 1, "OSI", "IMI", "", 0, 0},
		{"OSI", 0, "OSI", "MII", "ISI", -1, -1},
		{"OSI", 1, "OSI", "IMI", "OII", -1, -1},
		{"OSI", 2, "OSS", "IIM", "", 0, 0},
		{"SSO", 0, "SSO", "MII", "ISO", -1, -1},
		{"SSO", 2, "SSO", "IIM", "SSI", -1, -1},
		{"IOS", 0, "SOS", "MII", "", 1, 1},
	} {
		w := filled(three)
		spread(three, w, 9, x.before)
		expectStates(t, w, api.Deed{Node: x.node, Kind: api.KLoad, Addr: 38}, x.load, x.loadFrom)
		expectStates(t, w, api.Deed{Node: x.node, Kind: api.KStore, Addr: 38, Value: 3}, x.write, x.writesFrom)
		expectStates(t, w, api.Deed{Node: x.node, Kind: api.KSwap, Addr: 38, Value: 3}, x.write, x.writesFrom)
		put := api.Deed{Node: x.node, Kind: api.KPut, Addr: 38}
		if x.put == "" {
			expectError(t, three, w, put, api.ErrNone)
		} else {
			expectStates(t, w, put, x.put, -1)
		}
	}
}

// expectStates expects the letters of line 9 after an operation of configuration three, and From.
func expectStates(t *testing.T, w api.World, d api.Deed, want string, from int) {
	t.Helper()
	got, done, e := deed.Do(three, w, d)
	if names(got, 9) != want || done.From != from || e != api.OK {
		t.Errorf("%s: Do(%+v) leaves %s, %+v, %d, want %s from %d", names(w, 9), d, names(got, 9), done, e, want, from)
	}
}

// The loads of the example: of a line in state M, and then, by the last node, of the same line in state O.
// Nothing is written to memory, which has an older line.
func TestP101LoadFromAnOwner(t *testing.T) {
	w := filled(three)
	spread(three, w, 9, "IMI")
	for _, x := range []struct {
		node int
		want string
	}{{0, "SOI"}, {2, "SOS"}} {
		next, done, e := deed.Do(three, w, api.Deed{Node: x.node, Kind: api.KLoad, Addr: 38})
		if names(next, 9) != x.want || done != (api.Done{Told: fresh[2], From: 1, Out: -1}) || e != api.OK {
			t.Errorf("node %d: %s, %+v, %d", x.node, names(next, 9), done, e)
		}
		for node := range 3 {
			if y := lookup(next, node, 9); y != nil && y.Data != fresh {
				t.Errorf("node %d has %v", node, y.Data)
			}
		}
		if next.Memory != filled(three).Memory {
			t.Errorf("node %d: memory is %v", x.node, next.Memory)
		}
		w = next
	}
}

// The store of a node in S takes the line from the owner without writing to memory, which stays older.
func TestP101StoreBesideAnOwner(t *testing.T) {
	for _, k := range []api.Kind{api.KStore, api.KSwap} {
		w := filled(three)
		spread(three, w, 9, "SOS")
		next, done, e := deed.Do(three, w, api.Deed{Node: 2, Kind: k, Addr: 37, Value: 3})
		told := uint64(0)
		if k == api.KSwap {
			told = math.MaxUint64
		}
		if names(next, 9) != "IIM" || done != (api.Done{Told: told, From: -1, Out: -1}) || e != api.OK {
			t.Errorf("kind %d: %s, %+v, %d", k, names(next, 9), done, e)
		}
		if x := lookup(next, 2, 9); x == nil || x.Data != (api.Line{7, 3, 1 << 40, 10}) || next.Memory != filled(three).Memory {
			t.Errorf("kind %d: %v, memory %v", k, x, next.Memory)
		}
	}
}

// A line in each state is put, and its data are written to memory or not.
func TestP101Put(t *testing.T) {
	for _, x := range []struct {
		before, after string
		wrote         bool
	}{
		{"SII", "III", false},
		{"SSI", "ISI", false},
		{"SSS", "ISS", false},
		{"SOI", "IOI", false},
		{"SOS", "IOS", false},
		{"EII", "III", false},
		{"OII", "III", true},
		{"OSI", "ISI", true},
		{"OSS", "ISS", true},
		{"MII", "III", true},
	} {
		for a := 36; a < 40; a++ {
			w := filled(three)
			spread(three, w, 9, x.before)
			memory := w.Memory
			if x.wrote {
				memory[9] = fresh
			}
			next, done, e := deed.Do(three, w, api.Deed{Kind: api.KPut, Addr: a})
			want := api.Done{Hit: !x.wrote, From: -1, Out: 9, Wrote: x.wrote}
			if names(next, 9) != x.after || next.Memory != memory || done != want || e != api.OK {
				t.Errorf("%s: %s, %v, %+v, %d", x.before, names(next, 9), next.Memory[9], done, e)
			}
		}
	}
}

// A line that the node does not have cannot be put, whoever else has it, though it counts as a hit.
func TestP101PutOfALineThatIsNotThere(t *testing.T) {
	for line := range 16 {
		for _, at := range []string{"III", "ISI", "ISS", "IEI", "IOI", "IOS", "IMI"} {
			w := filled(three)
			spread(three, w, line, at)
			spread(three, w, (line+1)%16, "MII")
			d := api.Deed{Kind: api.KPut, Addr: 4*line + 3}
			if hit, e := deed.Hit(three, w, d); !hit || e != api.OK {
				t.Errorf("%s: Hit(%+v) = %v, %d", at, d, hit, e)
			}
			expectError(t, three, w, d, api.ErrNone)
		}
	}
}

// evictions are the states of a line that node 0 loses, and whether its data are written to memory.
var evictions = []struct {
	before, after string
	wrote         bool
}{
	{"SII", "III", false},
	{"SIS", "IIS", false},
	{"SOI", "IOI", false},
	{"SSO", "ISO", false},
	{"EII", "III", false},
	{"OII", "III", true},
	{"OIS", "IIS", true},
	{"OSS", "ISS", true},
	{"MII", "III", true},
}

// Node 0 has room for one line: line 4 evicts line 9, whoever else has line 4.
func TestP101Eviction(t *testing.T) {
	for _, x := range evictions {
		for _, k := range []api.Kind{api.KLoad, api.KStore, api.KSwap} {
			for _, at := range []string{"III", "ISI", "IIS", "IEI", "IOI", "IIO", "IMI", "IIM", "ISO"} {
				if overlaps(x.before, at) {
					continue
				}
				w := filled(narrow)
				spread(narrow, w, 9, x.before)
				spread(narrow, w, 4, at)
				memory := w.Memory
				if x.wrote {
					memory[9] = fresh
				}
				next, done := expectDo(t, narrow, w, operation(0, k, 17, 6))
				if names(next, 9) != x.after || next.Memory != memory || done.Out != 9 || done.Wrote != x.wrote || done.Hit {
					t.Errorf("%s and %s, kind %d: %s, %v, %+v", x.before, at, k, names(next, 9), next.Memory, done)
				}
			}
		}
	}
}

// overlaps reports whether a node has both of two lines.
func overlaps(s, t string) bool {
	for i := range s {
		if s[i] != 'I' && t[i] != 'I' {
			return true
		}
	}
	return false
}

// The evicted line is the victim of its set: neither an empty way, nor another set, nor a hit evicts a line.
func TestP101Victim(t *testing.T) {
	c := api.Config{Nodes: 2, Sets: 2, Ways: 4, Banks: 1}
	w := filled(c)
	var out []int
	for _, line := range []int{0, 2, 4, 6, 1, 3, 0, 8, 10, 5, 7, 0, 9, 12} {
		next, done := expectDo(t, c, w, api.Deed{Kind: api.KStore, Addr: 4 * line, Value: 1})
		out = append(out, done.Out)
		w = next
	}
	if want := []int{-1, -1, -1, -1, -1, -1, -1, 4, 2, -1, -1, -1, 1, 6}; !slices.Equal(out, want) {
		t.Fatalf("evicted %v, want %v", out, want)
	}
}

// The caches of the other nodes change in the state of the line alone: their trees stay, so that their victims do.
func TestP101TreesOfOtherNodes(t *testing.T) {
	c := api.Config{Nodes: 3, Sets: 1, Ways: 4, Banks: 1}
	for _, at := range shared {
		for node := range 3 {
			for bits := range 8 {
				w := filled(c)
				spread(c, w, 9, at)
				spread(c, w, 3, "SSS")
				tree := api.Tree{Top: bits&1 > 0, Low: bits&2 > 0, High: bits&4 > 0}
				for i := range 3 {
					w.Caches[i][0].Tree = tree
				}
				for _, k := range kinds {
					if k == api.KPut && at[node] == 'I' {
						continue
					}
					next, _ := expectDo(t, c, w, operation(node, k, 36, 2))
					for i := range 3 {
						if i != node && next.Caches[i][0].Tree != tree {
							t.Errorf("%s, node %d, kind %d: the tree of node %d is %v, was %v", at, node, k, i, next.Caches[i][0].Tree, tree)
						}
					}
				}
			}
		}
	}
}

// An access of the node's own touches the way, also where the state stays, and KPut leaves the tree.
func TestP101TreeOfTheNode(t *testing.T) {
	c := api.Config{Nodes: 2, Sets: 1, Ways: 2, Banks: 1}
	for _, at := range []api.State{api.S, api.E, api.O, api.M} {
		for i := range 2 {
			for _, before := range []bool{false, true} {
				w := filled(c)
				w.Caches[1][0].Ways[i] = api.Way{At: at, Line: 9, Data: w.Memory[9]}
				w.Caches[1][0].Tree.Top = before
				for _, k := range kinds {
					next, _ := expectDo(t, c, w, api.Deed{Node: 1, Kind: k, Addr: 36})
					want := i == 0
					if k == api.KPut {
						want = before
					}
					if next.Caches[1][0].Tree.Top != want {
						t.Errorf("state %d, way %d, kind %d: %v, want %v", at, i, k, next.Caches[1][0].Tree.Top, want)
					}
				}
			}
		}
	}
}

// Lines that are not that of the operation stay as they are, in all caches and in memory.
func TestP101OtherLines(t *testing.T) {
	for line := range 16 {
		w := filled(eight)
		for i := range 16 {
			spread(eight, w, i, shared[(3*i+line)%len(shared)])
		}
		for node := range 8 {
			for _, k := range kinds {
				if k == api.KPut && lookup(w, node, line) == nil {
					continue
				}
				next, _ := expectDo(t, eight, w, operation(node, k, 4*line, 2))
				for other := range 16 {
					if other == line {
						continue
					}
					for i := range 8 {
						x, y := lookup(w, i, other), lookup(next, i, other)
						if (x == nil) != (y == nil) || x != nil && *x != *y {
							t.Errorf("node %d, kind %d, line %d: line %d of node %d is %v, was %v", node, k, line, other, i, y, x)
						}
					}
					if next.Memory[other] != w.Memory[other] {
						t.Errorf("node %d, kind %d, line %d: memory of line %d", node, k, line, other)
					}
				}
			}
		}
	}
}
