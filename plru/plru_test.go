package plru_test

import (
	"math"
	"testing"

	"ringdove/api"
	"ringdove/plru"
)

var badWays = []int{math.MinInt, -4, -1, 0, 5, 6, 8, math.MaxInt}

// allTrees returns every combination of the three bits.
func allTrees() []api.Tree {
	var all []api.Tree
	for _, top := range []bool{false, true} {
		for _, low := range []bool{false, true} {
			for _, high := range []bool{false, true} {
				all = append(all, api.Tree{Top: top, Low: low, High: high})
			}
		}
	}
	return all
}

// isValid lists the permitted trees of P20 by the number of ways from 1 to 4.
func isValid(t api.Tree, ways int) bool {
	switch ways {
	case 1:
		return t == api.Tree{}
	case 2:
		return t == api.Tree{} || t == api.Tree{Top: true}
	case 3:
		return !t.High
	}
	return true
}

func validTrees(ways int) []api.Tree {
	var valid []api.Tree
	for _, x := range allTrees() {
		if isValid(x, ways) {
			valid = append(valid, x)
		}
	}
	return valid
}

func TestP20CheckEveryTree(t *testing.T) {
	counts := [5]int{}
	for ways := 1; ways <= 4; ways++ {
		for _, x := range allTrees() {
			want := api.ErrForm
			if isValid(x, ways) {
				want = api.OK
				counts[ways]++
			}
			if e := plru.Check(x, ways); e != want {
				t.Errorf("Check(%+v, %d) = %d, want %d", x, ways, e, want)
			}
		}
	}
	if counts != [5]int{0, 1, 2, 4, 8} {
		t.Errorf("valid trees by ways: %v", counts)
	}
}

func TestP20CheckOneUnusedBit(t *testing.T) {
	top, low, high := api.Tree{Top: true}, api.Tree{Low: true}, api.Tree{High: true}
	for _, x := range []struct {
		tree api.Tree
		ways int
		want api.Errno
	}{
		{top, 1, api.ErrForm}, {low, 1, api.ErrForm}, {high, 1, api.ErrForm},
		{top, 2, api.OK}, {low, 2, api.ErrForm}, {high, 2, api.ErrForm},
		{top, 3, api.OK}, {low, 3, api.OK}, {high, 3, api.ErrForm},
		{top, 4, api.OK}, {low, 4, api.OK}, {high, 4, api.OK},
	} {
		if e := plru.Check(x.tree, x.ways); e != x.want {
			t.Errorf("Check(%+v, %d) = %d, want %d", x.tree, x.ways, e, x.want)
		}
	}
}

// Every tree fails, also one whose bits are all true: the range comes before the form.
func TestP20CheckWaysOutOfRange(t *testing.T) {
	for _, ways := range badWays {
		for _, x := range allTrees() {
			if e := plru.Check(x, ways); e != api.ErrRange {
				t.Errorf("Check(%+v, %d) = %d, want ErrRange", x, ways, e)
			}
		}
	}
}

// The way is invalid too, in part of the calls: the error of Check is still the result.
func TestP20ErrorsOfCheckComeFirst(t *testing.T) {
	for _, ways := range append([]int{1, 2, 3, 4}, badWays...) {
		for _, x := range allTrees() {
			want := plru.Check(x, ways)
			if want == api.OK {
				continue
			}
			for _, way := range []int{math.MinInt, -1, 0, 1, 3, 4, math.MaxInt} {
				if got, e := plru.Touch(x, ways, way); got != (api.Tree{}) || e != want {
					t.Errorf("Touch(%+v, %d, %d) = %+v, %d, want error %d", x, ways, way, got, e, want)
				}
			}
			if got, e := plru.Victim(x, ways); got != 0 || e != want {
				t.Errorf("Victim(%+v, %d) = %d, %d, want error %d", x, ways, got, e, want)
			}
		}
	}
}

func TestP21TouchWayOutOfRange(t *testing.T) {
	for ways := 1; ways <= 4; ways++ {
		for _, x := range validTrees(ways) {
			for _, way := range []int{math.MinInt, -ways, -1, ways, ways + 1, 4, math.MaxInt} {
				if got, e := plru.Touch(x, ways, way); got != (api.Tree{}) || e != api.ErrRange {
					t.Errorf("Touch(%+v, %d, %d) = %+v, %d, want ErrRange", x, ways, way, got, e)
				}
			}
		}
	}
}

// path says what an access to a way does to the three bits: '0' and '1' are values that
// are set, and '-' is a bit that stays as it is.
type path struct {
	ways, way int
	bits      string
}

var paths = []path{
	{1, 0, "---"},
	{2, 0, "1--"}, {2, 1, "0--"},
	{3, 0, "11-"}, {3, 1, "10-"}, {3, 2, "0--"},
	{4, 0, "11-"}, {4, 1, "10-"}, {4, 2, "0-1"}, {4, 3, "0-0"},
}

func set(bit bool, mark byte) bool {
	return mark == '1' || mark == '-' && bit
}

func TestP21TouchEveryTreeAndWay(t *testing.T) {
	for _, p := range paths {
		for _, x := range validTrees(p.ways) {
			want := api.Tree{Top: set(x.Top, p.bits[0]), Low: set(x.Low, p.bits[1]), High: set(x.High, p.bits[2])}
			got, e := plru.Touch(x, p.ways, p.way)
			if got != want || e != api.OK {
				t.Errorf("Touch(%+v, %d, %d) = %+v, %d, want %+v", x, p.ways, p.way, got, e, want)
			}
			if e := plru.Check(got, p.ways); e != api.OK {
				t.Errorf("Touch(%+v, %d, %d) = %+v, which Check rejects: %d", x, p.ways, p.way, got, e)
			}
		}
	}
}

func TestP21VictimOfEveryTree(t *testing.T) {
	for _, x := range []struct {
		ways           int
		top, low, high bool
		want           int
	}{
		{1, false, false, false, 0},
		{2, false, false, false, 0},
		{2, true, false, false, 1},
		{3, false, false, false, 0},
		{3, false, true, false, 1},
		{3, true, false, false, 2},
		{3, true, true, false, 2},
		{4, false, false, false, 0},
		{4, false, false, true, 0},
		{4, false, true, false, 1},
		{4, false, true, true, 1},
		{4, true, false, false, 2},
		{4, true, true, false, 2},
		{4, true, false, true, 3},
		{4, true, true, true, 3},
	} {
		tree := api.Tree{Top: x.top, Low: x.low, High: x.high}
		if got, e := plru.Victim(tree, x.ways); got != x.want || e != api.OK {
			t.Errorf("Victim(%+v, %d) = %d, %d, want %d", tree, x.ways, got, e, x.want)
		}
	}
}

func TestP21ExampleOfTwoWays(t *testing.T) {
	tree, e := plru.Touch(api.Tree{}, 2, 0)
	if e != api.OK {
		t.Fatal(e)
	}
	if got, e := plru.Victim(tree, 2); got != 1 || e != api.OK {
		t.Errorf("victim %d, %d, want 1", got, e)
	}
}

// With 2 and more ways the way of the last access is never the next victim.
func TestP21VictimIsNotTheLastWay(t *testing.T) {
	for ways := 2; ways <= 4; ways++ {
		for _, x := range validTrees(ways) {
			for way := range ways {
				tree, _ := plru.Touch(x, ways, way)
				if got, e := plru.Victim(tree, ways); got == way || got < 0 || got >= ways || e != api.OK {
					t.Errorf("%d ways: victim %d, %d after an access to way %d", ways, got, e, way)
				}
			}
		}
	}
}

// If every victim is accessed at once, the ways take turns in a fixed order.
func TestP21TurnsOfVictims(t *testing.T) {
	for _, x := range []struct {
		ways  int
		turns []int
	}{
		{1, []int{0, 0, 0}},
		{2, []int{0, 1, 0, 1}},
		{3, []int{0, 2, 1, 2, 0, 2, 1, 2}},
		{4, []int{0, 2, 1, 3, 0, 2, 1, 3}},
	} {
		tree := api.Tree{}
		for i, want := range x.turns {
			got, e := plru.Victim(tree, x.ways)
			if got != want || e != api.OK {
				t.Errorf("%d ways, turn %d: victim %d, %d, want %d", x.ways, i, got, e, want)
			}
			tree, _ = plru.Touch(tree, x.ways, got)
		}
	}
}
