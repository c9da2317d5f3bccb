package addr_test

import (
	"math"
	"testing"

	"ringdove/addr"
	"ringdove/api"
)

// Extreme arguments for every function: a panic fails the test (P1), a second call has
// the same result (P2), and an error comes with zeros (P3).
func TestP1P2P3AnyArguments(t *testing.T) {
	numbers := []int{math.MinInt, math.MinInt + 1, -1, 0, 1, 2, 4, 8, 15, 16, 63, 64, math.MaxInt - 1, math.MaxInt}
	for _, n := range numbers {
		twice(t, func() result { line, word, e := addr.Line(n); return result{line, word, e} })
		for _, sets := range numbers {
			c := api.Config{Nodes: n, Sets: sets, Ways: 1, Banks: 1}
			for _, x := range numbers {
				twice(t, func() result { set, e := addr.Set(c, x); return result{set, 0, e} })
				twice(t, func() result { bank, e := addr.Bank(c, x); return result{bank, 0, e} })
				for _, y := range numbers {
					twice(t, func() result { node, e := addr.Node(c, x, y); return result{node, 0, e} })
				}
			}
		}
	}
}

type result struct {
	first, second int
	err           api.Errno
}

func twice(t *testing.T, call func() result) {
	t.Helper()
	got, again := call(), call()
	if got != again {
		t.Errorf("%+v, then %+v", got, again)
	}
	if got.err != api.OK && got != (result{err: api.ErrRange}) {
		t.Errorf("%+v, want zeros with ErrRange", got)
	}
}

func TestP3ErrorsAreErrnos(t *testing.T) {
	var e error = addr.Check(api.Config{})
	if n, ok := e.(api.Errno); !ok || n != api.ErrRange {
		t.Errorf("%v, want ErrRange", e)
	}
}

func TestP5Errors(t *testing.T) {
	for want, got := range []api.Errno{
		api.OK, api.ErrArg, api.ErrLarge, api.ErrForm, api.ErrRange,
		api.ErrNone, api.ErrThere, api.ErrFull, api.ErrState, api.ErrOrder,
	} {
		if int(got) != want {
			t.Errorf("error %d has the number %d", want, got)
		}
	}
}

func TestP5StatesAndKinds(t *testing.T) {
	for want, got := range []api.State{api.I, api.S, api.E, api.O, api.M} {
		if int(got) != want {
			t.Errorf("state %d has the number %d", want, got)
		}
	}
	for i, got := range []api.Kind{api.KLoad, api.KStore, api.KSwap, api.KPut} {
		if int(got) != i+1 {
			t.Errorf("kind %d has the number %d", i+1, got)
		}
	}
}

func TestP5Limits(t *testing.T) {
	for _, x := range []struct {
		name      string
		got, want int
	}{
		{"MaxNodes", api.MaxNodes, 8},
		{"MaxSets", api.MaxSets, 4},
		{"MaxWays", api.MaxWays, 4},
		{"Words", api.Words, 4},
		{"Lines", api.Lines, 16},
		{"MaxDeeds", api.MaxDeeds, 200},
		{"MaxSlots", api.MaxSlots, 8},
		{"MaxWait", api.MaxWait, 9},
		{"MaxProg", api.MaxProg, 20},
		{"MaxLog", api.MaxLog, 12},
		{"MaxWaits", api.MaxWaits, 20},
		{"MaxTime", api.MaxTime, 1000000},
		{"MaxCycles", api.MaxCycles, 4000},
		{"MaxScript", api.MaxScript, 60},
		{"MaxWorkers", api.MaxWorkers, 16},
		{"MaxWork", api.MaxWork, 60},
	} {
		if x.got != x.want {
			t.Errorf("%s is %d, want %d", x.name, x.got, x.want)
		}
	}
}
