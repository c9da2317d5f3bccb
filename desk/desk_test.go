package desk_test

import (
	"fmt"
	"testing"

	"ringdove/api"
	"ringdove/desk"
)

func TestP160Example(t *testing.T) {
	expectSession(t, `at | ok 0 0`)
}

func TestP160NoLines(t *testing.T) {
	for _, lines := range [][]string{nil, {}, make([]string, 0, 5)} {
		if replies, e := desk.Tell(lines); len(replies) != 0 || e != api.OK {
			t.Errorf("Tell(%q) = %q, %d", lines, replies, e)
		}
	}
}

// The machine at first: two nodes whose caches have room for two lines in each of two sets, and one slot.
func TestP160TheFirstMachine(t *testing.T) {
	expectSession(t, `
		at | ok 0 0
		word 0 | ok 0
		word 63 | ok 0
		line 0 | ok I I
		line 15 | ok I I
		told 1 | err 5
		run 4000 | ok 0
		at | ok 0 0
		line 0 | ok I I
		told 1 | err 5`)
	// Three lines of set 0 and two of set 1: the first one of set 0 is evicted.
	expectSession(t, `
		load 1 0 | ok
		load 1 4 | ok
		load 1 8 | ok
		load 1 12 | ok
		load 1 16 | ok
		load 2 0 | err 4
		run 4000 | ok 5
		line 0 | ok I I
		line 1 | ok I E
		line 2 | ok I E
		line 3 | ok I E
		line 4 | ok I E`)
	// The slot begins at node 0, where it arrives in cycle 2, and returns in cycle 4.
	expectSession(t, `
		store 0 9 1 | ok
		run 3 | ok 0
		at | ok 0 0
		run 1 | ok 1
		at | ok 1 0`)
	// It arrives at node 1 in cycle 1, and returns there in cycle 3.
	expectSession(t, `
		store 1 9 1 | ok
		run 2 | ok 0
		run 1 | ok 1
		at | ok 0 1`)
}

func TestP160ASession(t *testing.T) {
	expectSession(t, `
		config 3 1 2 2 | ok
		slots 3 | ok
		waits 0 2 | ok
		store 0 5 7 | ok
		swap 1 5 8 | ok
		load 2 5 | ok
		load 2 6 | ok
		put 0 63 | ok
		put 1 5 | ok
		at | ok 0 0 0
		word 5 | ok 0
		line 1 | ok I I I
		told 1 | err 5
		run 0 | ok 0
		at | ok 0 0 0
		told 1 | err 5
		run 3 | ok 0
		run 1 | ok 2
		at | ok 1 0 1
		told 1 | ok 0 0
		told 2 | ok 2 7
		told 3 | err 5
		word 5 | ok 7
		line 1 | ok O I S
		run 1 | ok 2
		at | ok 2 0 2
		told 3 | ok 0 0
		told 4 | ok 2 0
		run 4000 | ok 2
		at | ok 2 2 2
		told 5 | ok 1 7
		told 6 | ok 1 0
		told 7 | err 5
		word 5 | ok 8
		word 6 | ok 0
		line 1 | ok I I I
		run 4000 | ok 0
		at | ok 2 2 2`)
}

// With two slots there is one at once, and it returns two cycles later. Each wait is a cycle more.
func TestP160SlotsAndWaitsOfTheMachine(t *testing.T) {
	expectSession(t, `
		slots 2 | ok
		store 0 9 1 | ok
		run 2 | ok 0
		run 1 | ok 1`)
	expectSession(t, `
		slots 2 | ok
		waits 3 | ok
		store 0 9 1 | ok
		run 5 | ok 0
		run 1 | ok 1`)
	expectSession(t, `
		slots 2 | ok
		waits 9 3 | ok
		waits | ok
		store 0 9 1 | ok
		run 2 | ok 0
		run 1 | ok 1`)
	expectSession(t, `
		waits 1 | ok
		slots 8 | ok
		slots 1 | ok
		store 0 9 1 | ok
		run 4 | ok 0
		run 1 | ok 1`)
}

func TestP160EachNumberOfSlotsAndWaits(t *testing.T) {
	for nodes := 2; nodes <= 8; nodes++ {
		for slots := 1; slots <= 8; slots++ {
			for n := range 21 {
				waits := "waits"
				for i := range n {
					waits += fmt.Sprintf(" %d", (3*i+nodes+slots)%10)
				}
				lines := []string{words("slots", slots), waits, words("config", nodes, 2, 2, 1)}
				for i := range 10 {
					node := (i + n) % nodes
					lines = append(lines, words("store", node, 4*i+node, i+1))
				}
				for range 40 {
					lines = append(lines, "run 1")
				}
				expectModel(t, append(lines, "run 4000", "told 1", "told 5", "told 10", "at", "word 0", "word 21")...)
			}
		}
	}
}

func TestP160EachConfiguration(t *testing.T) {
	for nodes := 2; nodes <= 8; nodes++ {
		for _, sets := range []int{1, 2, 4} {
			for ways := 1; ways <= 4; ways++ {
				for banks := 1; banks <= 4; banks++ {
					lines := []string{words("config", nodes, sets, ways, banks), "at", "line 0", "line 15"}
					for i := range 15 {
						lines = append(lines, words("swap", nodes-1, 4*i+i%4, 100+i))
					}
					lines = append(lines, words("load", nodes, 0), "load 0 0", "run 4000", "at")
					for i := range 16 {
						lines = append(lines, words("line", i))
					}
					expectModel(t, lines...)
				}
			}
		}
	}
}

// Only the programs become empty; slots and waits remain.
func TestP160ConfigEmptiesThePrograms(t *testing.T) {
	expectSession(t, `
		slots 2 | ok
		waits 3 | ok
		store 0 9 1 | ok
		load 1 9 | ok
		config 2 2 2 1 | ok
		store 0 9 2 | ok
		run 5 | ok 0
		run 1 | ok 1
		run 4000 | ok 0
		word 9 | ok 2
		at | ok 1 0`)
	expectSession(t, `
		store 0 9 1 | ok
		config 8 4 4 4 | ok
		load 7 9 | ok
		config 3 1 1 1 | ok
		run 4000 | ok 0
		at | ok 0 0 0`)
	expectSession(t, `
		config 8 4 4 4 | ok
		store 7 9 1 | ok
		config 2 1 1 1 | ok
		config 8 1 1 1 | ok
		load 6 9 | ok
		run 4000 | ok 1
		at | ok 0 0 0 0 0 0 1 0`)
	expectSession(t, `
		store 0 9 1 | ok
		config 9 2 2 1 | err 4
		config 2 3 2 1 | err 4
		run 4000 | ok 1
		word 9 | ok 1`)
}

func TestP160EachState(t *testing.T) {
	expectSession(t, `
		config 4 1 1 1 | ok
		load 0 20 | ok
		run 4000 | ok 1
		line 5 | ok E I I I`)
	expectSession(t, `
		config 4 1 1 1 | ok
		load 3 20 | ok
		load 1 23 | ok
		run 4000 | ok 2
		line 5 | ok I S I S
		line 4 | ok I I I I`)
	expectSession(t, `
		slots 2 | ok
		store 1 20 5 | ok
		run 4000 | ok 1
		line 5 | ok I M
		word 20 | ok 5
		word 21 | ok 0`)
	expectSession(t, `
		config 3 1 1 1 | ok
		slots 3 | ok
		waits 0 9 | ok
		swap 0 20 5 | ok
		load 2 20 | ok
		run 4000 | ok 2
		line 5 | ok O I S
		told 1 | ok 0 0
		told 2 | ok 2 5`)
}

// Each kind, as the only operation and after a store of the same node.
func TestP160EachKind(t *testing.T) {
	for nodes := 2; nodes <= 8; nodes++ {
		for node := range nodes {
			for a := range 64 {
				config := words("config", nodes, 1, 2, 1)
				rest := []string{"at", "run 4000", "at", words("word", a), words("line", a/4), "told 1", "told 2", "told 3"}
				for _, o := range []string{words("load", node, a), words("store", node, a, 70), words("swap", node, a, 70), words("put", node, a)} {
					expectModel(t, append([]string{config, o}, rest...)...)
					expectModel(t, append([]string{config, words("store", node, a, 999999999999999), o}, rest...)...)
				}
			}
		}
	}
	expectSession(t, `
		store 0 5 7 | ok
		load 0 5 | ok
		swap 0 5 8 | ok
		put 0 5 | ok
		put 0 5 | ok
		load 0 5 | ok
		run 4000 | ok 6
		told 1 | ok 0 0
		told 2 | ok 0 7
		told 3 | ok 0 7
		told 4 | ok 0 0
		told 5 | ok 0 0
		told 6 | ok 0 8
		told 7 | err 5
		line 1 | ok E I`)
}

func TestP160EachValue(t *testing.T) {
	for _, v := range []int{0, 1, 9, 10, 255, 256, 65536, 1 << 31, 1<<32 + 5, 1 << 49, 100000000000000, 999999999999999} {
		for _, kind := range []string{"store", "swap"} {
			expectReplies(t, []string{words(kind, 1, 62, v), "load 1 62", "run 4000", "word 62", "told 1", "told 2", "word 61", "word 63"},
				[]string{"ok", "ok", "ok 2", words("ok", v), "ok 1 0", words("ok", 1, v), "ok 0", "ok 0"})
		}
	}
}

// A run that starts the machine may be one of no cycles; then nothing changes the machine any more.
func TestP160Run0StartsTheMachine(t *testing.T) {
	for _, line := range []string{"config 2 2 2 1", "slots 1", "waits", "load 0 5", "store 0 5 7", "swap 0 5 7", "put 0 5"} {
		expectReplies(t, []string{line, "run 0", line, "at", "told 1"}, []string{"ok", "ok 0", "err 8", "ok 0 0", "err 5"})
		expectReplies(t, []string{"run 0", line, "run 4000"}, []string{"ok 0", "err 8", "ok 0"})
	}
}

// The result is the number of events of this line alone, and told has those of all lines.
func TestP160EachRunHasItsOwnEvents(t *testing.T) {
	expectSession(t, `
		slots 2 | ok
		store 0 1 5 | ok
		load 1 1 | ok
		load 0 1 | ok
		run 2 | ok 0
		run 1 | ok 2
		run 1 | ok 1
		run 1 | ok 0
		told 1 | ok 0 0
		told 2 | ok 1 5
		told 3 | ok 0 5
		told 4 | err 5`)
	for cycles := range 50 {
		lines := []string{"config 4 2 2 2", "slots 3", "waits 1 0 4"}
		for i := range 12 {
			lines = append(lines, words("swap", i%4, 4*(i%3), i+1))
		}
		for range 30 {
			lines = append(lines, words("run", cycles))
		}
		for i := range 14 {
			lines = append(lines, words("told", i))
		}
		expectModel(t, lines...)
	}
}

// With all that the limits permit.
func TestP160LongPrograms(t *testing.T) {
	for nodes := 2; nodes <= 8; nodes++ {
		for node := range nodes {
			lines := []string{words("config", nodes, 1, 1, 1), "slots 1", "waits 9 9 9 9 9 9 9 9 9 9 9 9 9 9 9 9 9 9 9 9"}
			for i := range 20 {
				lines = append(lines, words("store", node, 4*(i%16), i))
			}
			lines = append(lines, words("load", node, 0), words("load", (node+1)%nodes, 0), words("put", node, 64))
			for i := range 12 {
				lines = append(lines, words("swap", (node+1)%nodes, 4*(i%16), i))
			}
			lines = append(lines, "run 400", "at", "told 10", "run 4000", "at", "told 20", "told 21", "told 33", "told 34", "word 0", "word 60")
			expectModel(t, lines...)
		}
	}
}

func TestP160NumberOfLines(t *testing.T) {
	for _, line := range []string{"", "at", "what", "run 1", "store 0 5 7", "waits 1 2 3"} {
		for n := range 61 {
			lines := make([]string, n, 100)
			for i := range lines {
				lines[i] = line
			}
			expectModel(t, lines...)
		}
		for _, n := range []int{61, 62, 100, 256, 1000} {
			lines := make([]string, n)
			for i := range lines {
				lines[i] = line
			}
			if replies, e := desk.Tell(lines); len(replies) != 0 || e != api.ErrLarge {
				t.Errorf("Tell(%d lines) = %q, %d, want nothing, %d", n, replies, e, api.ErrLarge)
			}
		}
	}
	// The limit is that of the length, and lines beyond it are none.
	expectModel(t, make([]string, 61)[:60]...)
}

// Each call of Tell has a desk of its own.
func TestP160EveryScriptBeginsAnew(t *testing.T) {
	for range 3 {
		expectSession(t, `
			at | ok 0 0
			told 1 | err 5
			config 3 1 1 1 | ok
			slots 8 | ok
			waits 1 | ok
			store 2 5 7 | ok
			run 4000 | ok 1
			at | ok 0 0 1
			told 1 | ok 2 0
			word 5 | ok 7
			slots 1 | err 8`)
	}
}
