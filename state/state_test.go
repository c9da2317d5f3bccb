package state_test

import (
	"math"
	"testing"

	"ringdove/api"
	"ringdove/state"
)

var states = []api.State{api.I, api.S, api.E, api.O, api.M}

var badStates = []api.State{math.MinInt, -256, -5, -1, 5, 6, 256, 1 << 32, math.MaxInt}

var kinds = []api.Kind{api.KLoad, api.KStore, api.KSwap, api.KPut}

var badKinds = []api.Kind{math.MinInt, -256, -1, 0, 5, 6, 256, 257, 1<<32 + 1, math.MaxInt}

func TestP40EachState(t *testing.T) {
	for _, x := range []struct {
		s                   api.State
		name                string
		reads, writes, owns bool
	}{
		{api.I, "I", false, false, false},
		{api.S, "S", true, false, false},
		{api.E, "E", true, true, false},
		{api.O, "O", true, false, true},
		{api.M, "M", true, true, true},
	} {
		if got := state.Name(x.s); got != x.name {
			t.Errorf("Name(%d) = %q, want %q", x.s, got, x.name)
		}
		if got := state.Reads(x.s); got != x.reads {
			t.Errorf("Reads(%s) = %t", x.name, got)
		}
		if got := state.Writes(x.s); got != x.writes {
			t.Errorf("Writes(%s) = %t", x.name, got)
		}
		if got := state.Owns(x.s); got != x.owns {
			t.Errorf("Owns(%s) = %t", x.name, got)
		}
	}
}

func TestP40WhatIsNotAState(t *testing.T) {
	for _, s := range badStates {
		if got := state.Name(s); got != "" {
			t.Errorf("Name(%d) = %q", s, got)
		}
		if state.Reads(s) || state.Writes(s) || state.Owns(s) {
			t.Errorf("%d reads %t, writes %t, owns %t", s, state.Reads(s), state.Writes(s), state.Owns(s))
		}
	}
}

// A row for each s, a column for each t, both in the order of states.
func TestP40BesideEachPair(t *testing.T) {
	rows := []string{
		"yyyyy",
		"yy-y-",
		"y----",
		"yy---",
		"y----",
	}
	for i, s := range states {
		for j, u := range states {
			if got, want := state.Beside(s, u), rows[i][j] == 'y'; got != want {
				t.Errorf("Beside(%s, %s) = %t, want %t", state.Name(s), state.Name(u), got, want)
			}
		}
	}
}

func TestP40BesideWhatIsNotAState(t *testing.T) {
	for _, bad := range badStates {
		for _, s := range append(badStates, states...) {
			if state.Beside(bad, s) || state.Beside(s, bad) {
				t.Errorf("Beside of %d and %d: %t, %t", bad, s, state.Beside(bad, s), state.Beside(s, bad))
			}
		}
	}
}

// The letters are the states I, S, E, O, M afterwards, in the order of states.
func TestP41EachStateAndOperation(t *testing.T) {
	for _, x := range []struct {
		deed                api.Kind
		alone, among, other string
	}{
		{api.KLoad, "ESEOM", "SSEOM", "ISSOO"},
		{api.KStore, "MMMMM", "MMMMM", "IIIII"},
		{api.KSwap, "MMMMM", "MMMMM", "IIIII"},
		{api.KPut, "IIIII", "IIIII", "ISEOM"},
	} {
		for i, s := range states {
			if got, e := state.Own(s, x.deed, true); got != named(x.alone[i]) || e != api.OK {
				t.Errorf("Own(%s, %d, true) = %d, %d, want %c", state.Name(s), x.deed, got, e, x.alone[i])
			}
			if got, e := state.Own(s, x.deed, false); got != named(x.among[i]) || e != api.OK {
				t.Errorf("Own(%s, %d, false) = %d, %d, want %c", state.Name(s), x.deed, got, e, x.among[i])
			}
			if got, e := state.Other(s, x.deed); got != named(x.other[i]) || e != api.OK {
				t.Errorf("Other(%s, %d) = %d, %d, want %c", state.Name(s), x.deed, got, e, x.other[i])
			}
		}
	}
}

func named(letter byte) api.State {
	return map[byte]api.State{'I': api.I, 'S': api.S, 'E': api.E, 'O': api.O, 'M': api.M}[letter]
}

func TestP41ExampleOfALoadBesideM(t *testing.T) {
	own, e := state.Own(api.I, api.KLoad, false)
	other, f := state.Other(api.M, api.KLoad)
	if own != api.S || other != api.O || e != api.OK || f != api.OK {
		t.Error(own, e, other, f)
	}
}

// A node that loads a line alone has it in E; a second load makes both S.
func TestP41ExampleOfTwoLoads(t *testing.T) {
	first, e := state.Own(api.I, api.KLoad, true)
	if first != api.E || e != api.OK {
		t.Error(first, e)
	}
	second, e := state.Own(api.I, api.KLoad, false)
	first, f := state.Other(first, api.KLoad)
	if first != api.S || second != api.S || e != api.OK || f != api.OK {
		t.Error(first, f, second, e)
	}
}

// Two caches that may be beside each other still may after an operation of either.
func TestP41OperationsKeepStatesBesideEachOther(t *testing.T) {
	for _, s := range states {
		for _, u := range states {
			if !state.Beside(s, u) {
				continue
			}
			for _, deed := range kinds {
				own, _ := state.Own(s, deed, u == api.I)
				other, _ := state.Other(u, deed)
				if !state.Beside(own, other) {
					t.Errorf("%d of %s beside %s: %s, %s", deed, state.Name(s), state.Name(u), state.Name(own), state.Name(other))
				}
			}
		}
	}
}

func TestP41WhatIsNotAState(t *testing.T) {
	for _, s := range badStates {
		for _, deed := range append(badKinds, kinds...) {
			refused(t, s, deed)
		}
	}
}

func TestP41WhatIsNotAnOperation(t *testing.T) {
	for _, s := range states {
		for _, deed := range badKinds {
			refused(t, s, deed)
		}
	}
}

// refused: the error comes with the state zero (P3), whether or not the cache is alone.
func refused(t *testing.T, s api.State, deed api.Kind) {
	t.Helper()
	for _, alone := range []bool{true, false} {
		if got, e := state.Own(s, deed, alone); got != 0 || e != api.ErrArg {
			t.Errorf("Own(%d, %d, %t) = %d, %d, want ErrArg", s, deed, alone, got, e)
		}
	}
	if got, e := state.Other(s, deed); got != 0 || e != api.ErrArg {
		t.Errorf("Other(%d, %d) = %d, %d, want ErrArg", s, deed, got, e)
	}
}
