package addr_test

import (
	"math"
	"testing"

	"ringdove/addr"
	"ringdove/api"
)

// badNumbers lie outside every range of the chapter.
var badNumbers = []int{math.MinInt, -64, -1, 64, 65, math.MaxInt}

// isValid states the ranges of P10 by listing the permitted values.
func isValid(c api.Config) bool {
	nodes := map[int]bool{2: true, 3: true, 4: true, 5: true, 6: true, 7: true, 8: true}
	sets := map[int]bool{1: true, 2: true, 4: true}
	upToFour := map[int]bool{1: true, 2: true, 3: true, 4: true}
	return nodes[c.Nodes] && sets[c.Sets] && upToFour[c.Ways] && upToFour[c.Banks]
}

// configs calls f with every configuration whose numbers are near their ranges.
func configs(f func(c api.Config)) {
	for nodes := -2; nodes <= 10; nodes++ {
		for sets := -4; sets <= 9; sets++ {
			for ways := -2; ways <= 6; ways++ {
				for banks := -2; banks <= 6; banks++ {
					f(api.Config{Nodes: nodes, Sets: sets, Ways: ways, Banks: banks})
				}
			}
		}
	}
}

func TestP10CheckNearTheRanges(t *testing.T) {
	configs(func(c api.Config) {
		want := api.ErrRange
		if isValid(c) {
			want = api.OK
		}
		if e := addr.Check(c); e != want {
			t.Errorf("Check(%+v) = %d, want %d", c, e, want)
		}
	})
}

func TestP10CheckOneExtremeNumber(t *testing.T) {
	good := api.Config{Nodes: 4, Sets: 2, Ways: 2, Banks: 2}
	for _, n := range badNumbers {
		for field := range 4 {
			c := good
			*[]*int{&c.Nodes, &c.Sets, &c.Ways, &c.Banks}[field] = n
			if e := addr.Check(c); e != api.ErrRange {
				t.Errorf("Check(%+v) = %d, want ErrRange", c, e)
			}
		}
	}
}

func TestP10LineOfEveryAddress(t *testing.T) {
	a := 0
	for wantLine := range 16 {
		for wantWord := range 4 {
			line, word, e := addr.Line(a)
			if line != wantLine || word != wantWord || e != api.OK {
				t.Errorf("Line(%d) = %d, %d, %d, want %d, %d, OK", a, line, word, e, wantLine, wantWord)
			}
			a++
		}
	}
}

func TestP10LineOfNoAddress(t *testing.T) {
	for _, a := range badNumbers {
		if line, word, e := addr.Line(a); line != 0 || word != 0 || e != api.ErrRange {
			t.Errorf("Line(%d) = %d, %d, %d, want 0, 0, ErrRange", a, line, word, e)
		}
	}
}

func TestP11SetAndBankOfEveryLine(t *testing.T) {
	configs(func(c api.Config) {
		if !isValid(c) {
			return
		}
		// The wanted numbers are counted, so that they do not rest on the operator under test.
		wantSet, wantBank := 0, 0
		for line := range 16 {
			if set, e := addr.Set(c, line); set != wantSet || e != api.OK {
				t.Errorf("Set(%+v, %d) = %d, %d, want %d, OK", c, line, set, e, wantSet)
			}
			if bank, e := addr.Bank(c, line); bank != wantBank || e != api.OK {
				t.Errorf("Bank(%+v, %d) = %d, %d, want %d, OK", c, line, bank, e, wantBank)
			}
			wantSet, wantBank = after(wantSet, c.Sets), after(wantBank, c.Banks)
		}
	})
}

// after counts round from 0 to n - 1.
func after(k, n int) int {
	if k+1 == n {
		return 0
	}
	return k + 1
}

func TestP11SetAndBankOfNoLine(t *testing.T) {
	c := api.Config{Nodes: 8, Sets: 4, Ways: 4, Banks: 3}
	for _, line := range append([]int{16, 17}, badNumbers...) {
		if set, e := addr.Set(c, line); set != 0 || e != api.ErrRange {
			t.Errorf("Set(%d) = %d, %d, want 0, ErrRange", line, set, e)
		}
		if bank, e := addr.Bank(c, line); bank != 0 || e != api.ErrRange {
			t.Errorf("Bank(%d) = %d, %d, want 0, ErrRange", line, bank, e)
		}
	}
}

func TestP11NodeCountsRound(t *testing.T) {
	for nodes := 2; nodes <= 8; nodes++ {
		c := api.Config{Nodes: nodes, Sets: 1, Ways: 1, Banks: 1}
		for from := range nodes {
			want := from
			for n := range 3*nodes + 1 {
				if got, e := addr.Node(c, from, n); got != want || e != api.OK {
					t.Errorf("Node(%d nodes, %d, %d) = %d, %d, want %d, OK", nodes, from, n, got, e, want)
				}
				want = after(want, nodes)
			}
		}
	}
}

func TestP11NodeExamples(t *testing.T) {
	for _, x := range []struct{ nodes, from, n, want int }{
		{4, 2, 3, 1},
		{4, 3, 1, 0},
		{4, 0, 0, 0},
		{8, 7, math.MaxInt, 6},
		{8, 0, math.MaxInt, 7},
		{2, 1, math.MaxInt, 0},
		{7, 6, math.MaxInt - math.MaxInt%7, 6},
	} {
		c := api.Config{Nodes: x.nodes, Sets: 2, Ways: 2, Banks: 2}
		if got, e := addr.Node(c, x.from, x.n); got != x.want || e != api.OK {
			t.Errorf("Node(%d nodes, %d, %d) = %d, %d, want %d, OK", x.nodes, x.from, x.n, got, e, x.want)
		}
	}
}

func TestP11NodeOutOfRange(t *testing.T) {
	c := api.Config{Nodes: 3, Sets: 1, Ways: 1, Banks: 1}
	for _, x := range []struct{ from, n int }{
		{-1, 0}, {3, 0}, {4, 2}, {math.MinInt, 1}, {math.MaxInt, 1},
		{0, -1}, {2, -3}, {1, math.MinInt}, {-1, -1},
	} {
		if got, e := addr.Node(c, x.from, x.n); got != 0 || e != api.ErrRange {
			t.Errorf("Node(%d, %d) = %d, %d, want 0, ErrRange", x.from, x.n, got, e)
		}
	}
}

func TestP11InvalidConfiguration(t *testing.T) {
	configs(func(c api.Config) {
		if isValid(c) {
			return
		}
		// The other arguments are in range, so that only the configuration is wrong.
		set, e := addr.Set(c, 3)
		bank, f := addr.Bank(c, 3)
		node, g := addr.Node(c, 1, 1)
		if set != 0 || bank != 0 || node != 0 || e != api.ErrRange || f != api.ErrRange || g != api.ErrRange {
			t.Errorf("%+v: Set %d, %d, Bank %d, %d, Node %d, %d, want 0, ErrRange", c, set, e, bank, f, node, g)
		}
	})
}
