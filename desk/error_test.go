package desk_test

import (
	"maps"
	"slices"
	"strings"
	"testing"
)

// notNumerals has words that are not from 1 to 15 decimal digits without leading zeros.
var notNumerals = []string{
	"", "00", "01", "007", "000000000000000", "000000000000001", "0000000000000001", "1000000000000000", "9999999999999999",
	"18446744073709551616", "340282366920938463463374607431768211457", strings.Repeat("1", 1000), strings.Repeat("0", 16),
	"-", "+", "-0", "-1", "+0", "+1", "1-", "1+", "--1", "0-1", "x", "1x", "x1", "1x1", "0x1", "0b1", "0o1", "1_0", "_1", "1e1", "1.", "1.0", ".1", "1,0",
	"\t1", "1\t", "1\n", "\n1", "1\r", "1\x00", "\x00", "1/", "1:", "/", ":", "a", "\xff", "1\xb1", "\u0661", "\u00b2", "\uff11", "\u00bd", "1\u00a0", "NaN", "Inf",
}

// notCommands has lines whose first word is not a command.
var notCommands = []string{
	"", " ", "  ", " at", "  at", " run 1", "\tat", "at\t", "at\n", "at\x00", "\x00", "AT", "At", "a", "t", "att", "ats", "at,", "at1", "1", "0", "ok", "err", "err 1",
	"configure 2 2 2 1", "confi 2 2 2 1", "Config 2 2 2 1", "CONFIG 2 2 2 1", "slot 1", "slotss 1", "wait 1", "waitss 1", "waits\t1", "waits,1",
	"loads 0 5", "loa 0 5", "stor 0 5 7", "stores 0 5 7", "swaps 0 5 7", "puts 0 5", "ru 1", "runs 1", "run1", "run\t1", "words 5", "wor 5", "lin 1", "lines 1", "tell 1", "tolds 1", "tol 1",
	"node 1", "step", "help", "w\u00f6rd 5", "\xff\xfe", "word\u00a05", "NODE", "I", "M",
}

// good has for each command numbers that are right in the first machine, before it is started.
var good = map[string][]string{
	"config": {"2", "1", "3", "4"}, "slots": {"3"}, "waits": {"1", "0", "9"}, "load": {"0", "5"}, "store": {"1", "5", "7"},
	"swap": {"1", "63", "0"}, "put": {"0", "0"}, "run": {"3"}, "at": {}, "word": {"9"}, "line": {"2"}, "told": {"1"},
}

// contexts has lines after which a desk has been started, or has not been, or has events.
var contexts = [][]string{nil, {"store 0 5 7", "swap 1 5 8"}, {"run 0"}, {"slots 2", "store 0 5 7", "load 1 5", "run 4000"}}

// after has lines that show what a desk is.
var after = []string{"at", "word 5", "line 1", "told 1", "told 2", "run 3", "at", "told 1", "run 1", "at", "run 4000", "at", "word 5", "line 1", "told 1", "told 2", "told 3"}

// expectNothing expects an error of the line, and the same replies afterwards as if the line had not been.
func expectNothing(t *testing.T, before []string, line, want string) {
	t.Helper()
	with := slices.Concat(before, []string{line}, after)
	replies := tell(t, with)
	if got := replies[len(before)]; got != want {
		t.Errorf("after %q the reply to %q is %q, want %q", before, line, got, want)
	}
	without := slices.Concat(before, after)
	if got, as := slices.Delete(replies, len(before), len(before)+1), tell(t, without); !slices.Equal(got, as) {
		t.Errorf("after %q the line %q has changed the desk: %q, want %q", before, line, got, as)
	}
}

func each(f func(before []string, word string, numbers []string)) {
	for _, before := range contexts {
		for _, word := range slices.Sorted(maps.Keys(good)) {
			f(before, word, good[word])
		}
	}
}

func TestP160WordsOfNoCommand(t *testing.T) {
	for _, line := range notCommands {
		for _, before := range contexts {
			expectNothing(t, before, line, "err 1")
			// Whatever comes behind the word.
			for _, rest := range []string{"", " ", " 1", " x", " 01", " 0 5", " 0 5 7", " 2 2 2 1"} {
				expectNothing(t, before, line+"?"+rest, "err 1")
			}
		}
	}
	for _, word := range slices.Sorted(maps.Keys(good)) {
		rest := strings.Join(good[word], " ")
		for _, w := range []string{" " + word, strings.ToUpper(word), strings.ToTitle(word[:1]) + word[1:], word + "s2", word[1:], word[:len(word)-1], word + word, "\t" + word, word + "\t", word + "\x00"} {
			if _, is := good[w]; is {
				continue
			}
			expectNothing(t, nil, w, "err 1")
			expectNothing(t, nil, w+" "+rest, "err 1")
			expectNothing(t, nil, w+" x", "err 1")
		}
	}
}

// The number of words behind the first one counts, also if all of them are numerals, or none.
func TestP160NumberOfWords(t *testing.T) {
	each(func(before []string, word string, numbers []string) {
		if word == "waits" {
			return
		}
		for n := range 9 {
			if n == len(numbers) {
				continue
			}
			for _, w := range []string{"0", "1", "5", "999999999999999", "", "x", "01", "-1"} {
				line := word + strings.Repeat(" "+w, n)
				expectNothing(t, before, line, "err 3")
			}
		}
		line := strings.Join(append([]string{word}, numbers...), " ")
		for _, more := range []string{" ", "  ", " 0", " 1", " x", " 1 1", " at"} {
			expectNothing(t, before, line+more, "err 3")
		}
	})
}

// Words may be empty, but an empty word is not a numeral.
func TestP160EmptyWords(t *testing.T) {
	each(func(before []string, word string, numbers []string) {
		line := strings.Join(append([]string{word}, numbers...), " ")
		expectNothing(t, before, line+" ", "err 3")
		expectNothing(t, before, " "+line, "err 1")
		for i := range line {
			if line[i] == ' ' {
				expectNothing(t, before, line[:i]+" "+line[i:], "err 3")
			}
		}
	})
}

func TestP160NotANumeral(t *testing.T) {
	each(func(before []string, word string, numbers []string) {
		for i := range numbers {
			for _, w := range notNumerals {
				all := slices.Clone(numbers)
				all[i] = w
				expectNothing(t, before, strings.Join(append([]string{word}, all...), " "), "err 3")
				// The other words may be wrong numbers.
				for k := range all {
					if k != i {
						all[k] = "999999999999999"
					}
				}
				expectNothing(t, before, strings.Join(append([]string{word}, all...), " "), "err 3")
			}
		}
	})
}

// A numeral may be wrong for its command, but never because of its form.
func TestP160Numerals(t *testing.T) {
	numbers := []string{"0", "1", "2", "9", "10", "63", "64", "99", "100", "4000", "4001", "4294967296", "4294967301", "99999999999999", "100000000000000", "123456789012345", "999999999999999"}
	each(func(before []string, word string, right []string) {
		for i := range right {
			for _, w := range numbers {
				all := slices.Clone(right)
				all[i] = w
				lines := slices.Concat(before, []string{strings.Join(append([]string{word}, all...), " ")}, after)
				expectModel(t, lines...)
				if r := tell(t, lines)[len(before)]; r == "err 3" || r == "err 1" {
					t.Errorf("after %q the reply to %q is %q", before, lines[len(before)], r)
				}
			}
		}
	})
}

// Each wait is examined as a word before all of them are examined as waits.
func TestP160Waits(t *testing.T) {
	for n := range 25 {
		all := slices.Repeat([]string{"9"}, n)
		line := strings.Join(append([]string{"waits"}, all...), " ")
		if n <= 20 {
			expectModel(t, slices.Concat([]string{line, "store 0 5 1"}, slices.Repeat([]string{"run 1"}, 20), []string{"at"})...)
		} else {
			expectNothing(t, nil, line, "err 4")
		}
		expectNothing(t, []string{"run 0"}, line, "err 8")
		for i := range n {
			wrong := slices.Clone(all)
			wrong[i] = "10"
			expectNothing(t, nil, strings.Join(append([]string{"waits"}, wrong...), " "), "err 4")
			for _, w := range []string{"", "01", "x", "-1", "1000000000000000"} {
				wrong[i] = w
				expectNothing(t, nil, strings.Join(append([]string{"waits"}, wrong...), " "), "err 3")
				wrong[0] = w
				wrong[i] = "10"
				expectNothing(t, []string{"run 0"}, strings.Join(append([]string{"waits", w}, wrong...), " "), "err 3")
			}
		}
	}
	for _, n := range []int{100, 256, 10000} {
		expectNothing(t, nil, "waits"+strings.Repeat(" 1", n), "err 4")
		expectNothing(t, nil, "waits"+strings.Repeat(" 1", n)+" ", "err 3")
	}
	for _, line := range []string{"waits ", "waits  ", "waits  1", "waits 1  1", "waits 1 "} {
		expectNothing(t, nil, line, "err 3")
	}
}

func TestP160WrongNumbers(t *testing.T) {
	lines := map[string][]string{
		"err 4": {
			"config 0 2 2 1", "config 1 2 2 1", "config 9 2 2 1", "config 16 2 2 1", "config 999999999999999 2 2 1", "config 4294967298 2 2 1",
			"config 2 0 2 1", "config 2 3 2 1", "config 2 5 2 1", "config 2 8 2 1", "config 2 999999999999999 2 1",
			"config 2 2 0 1", "config 2 2 5 1", "config 2 2 999999999999999 1", "config 2 2 2 0", "config 2 2 2 5", "config 2 2 2 999999999999999",
			"config 0 0 0 0", "config 1 1 1 1", "slots 0", "slots 9", "slots 10", "slots 999999999999999", "slots 4294967297",
			"waits 10", "waits 0 10", "waits 999999999999999", "load 2 5", "load 0 64", "load 2 64", "load 8 5", "load 999999999999999 0", "load 0 999999999999999",
			"store 2 5 7", "store 1 64 7", "store 7 99 7", "swap 2 5 7", "swap 1 64 7", "swap 4294967296 5 7", "put 2 5", "put 1 64", "put 4294967297 4294967301",
			"run 4001", "run 10000", "run 999999999999999", "run 4294967297",
			"word 64", "word 65", "word 999999999999999", "line 16", "line 17", "line 999999999999999", "line 4294967296",
		},
		"err 5": {"told 0", "told 1", "told 2", "told 160", "told 999999999999999", "told 4294967296"},
	}
	for want, all := range lines {
		for _, line := range all {
			expectNothing(t, nil, line, want)
		}
	}
}

// ErrState comes before what is wrong with the numbers, and behind what is wrong with the words.
func TestP160ChangesOfAStartedMachine(t *testing.T) {
	for _, before := range contexts[2:] {
		for _, line := range []string{
			"config 2 2 2 1", "config 0 0 0 0", "config 999999999999999 1 1 1", "slots 1", "slots 0", "slots 9", "waits", "waits 1", "waits 10", "waits" + strings.Repeat(" 1", 21),
			"load 0 5", "load 2 5", "load 0 64", "load 9 99", "store 0 5 7", "store 2 5 7", "store 0 64 7", "swap 1 5 7", "swap 8 5 7", "swap 1 64 7", "put 1 5", "put 2 5", "put 0 64",
		} {
			expectNothing(t, before, line, "err 8")
			expectNothing(t, before, line+" ", "err 3")
			expectNothing(t, before, line+" 01", "err 3")
			expectNothing(t, before, " "+line, "err 1")
		}
	}
}

// A program may have 20 operations. The node comes first, then the length of its program, and then the address.
func TestP160FullProgram(t *testing.T) {
	for node := range 2 {
		full := slices.Repeat([]string{words("store", node, 5, 1)}, 20)
		for _, line := range []string{
			words("load", node, 5), words("store", node, 5, 7), words("swap", node, 5, 7), words("put", node, 5),
			words("load", node, 64), words("store", node, 64, 7), words("swap", node, 999999999999999, 7), words("put", node, 100),
		} {
			expectNothing(t, full, line, "err 2")
			expectNothing(t, full[1:], words("load", node, 64), "err 4")
			expectNothing(t, slices.Concat(full, []string{"run 0"}), line, "err 8")
		}
		for _, line := range []string{"load 2 5", "put 2 64", "store 8 5 7", "swap 999999999999999 64 7", words("load", 1-node, 64)} {
			expectNothing(t, full, line, "err 4")
		}
		expectModel(t, slices.Concat(full, []string{words("swap", 1-node, 5, 7)}, after)...)
		expectModel(t, slices.Concat(full, []string{"config 2 1 1 1", words("swap", node, 5, 7)}, after)...)
	}
}

// The nodes are those of the configuration.
func TestP160NodesOfEachConfiguration(t *testing.T) {
	for nodes := 2; nodes <= 8; nodes++ {
		config := []string{words("config", nodes, 4, 1, 3)}
		for node := range 12 {
			for _, line := range []string{words("load", node, 5), words("store", node, 5, 7), words("swap", node, 5, 7), words("put", node, 5)} {
				if node >= nodes {
					expectNothing(t, config, line, "err 4")
				} else {
					expectModel(t, slices.Concat(config, []string{line}, after)...)
				}
			}
		}
	}
	// The nodes of an earlier configuration are no nodes any more, and those of a wrong one never were.
	expectNothing(t, []string{"config 8 1 1 1", "load 7 5", "config 3 1 1 1"}, "load 3 5", "err 4")
	expectNothing(t, []string{"config 8 3 1 1"}, "load 7 5", "err 4")
	expectNothing(t, []string{"config 9 1 1 1"}, "load 2 5", "err 4")
}

// A run with an error does not start the machine, and a run of a started one has no events then.
func TestP160WrongRuns(t *testing.T) {
	for _, line := range []string{"run 4001", "run 999999999999999", "run 01", "run", "run 1 1", "run -1", "run ", " run 1"} {
		expectReplies(t, []string{"store 0 5 7", line, "slots 2", "run 2", line, "run 1", line, "run 1", "told 1", "told 2"},
			[]string{"ok", modelOf([]string{line})[0], "ok", "ok 0", modelOf([]string{line})[0], "ok 1", modelOf([]string{line})[0], "ok 0", "ok 0 0", "err 5"})
	}
	expectSession(t, `
		run 4001 | err 4
		config 3 1 1 1 | ok
		run 4000 | ok 0
		config 3 1 1 1 | err 8
		run 4001 | err 4`)
}

func TestP160ToldOfNoEvent(t *testing.T) {
	before := []string{"slots 2", "store 0 5 7", "load 1 5", "load 0 5", "run 3"}
	for n := range 8 {
		line := words("told", n)
		if n == 1 || n == 2 {
			expectModel(t, append(slices.Clone(before), line)...)
		} else {
			expectNothing(t, before, line, "err 5")
		}
	}
	expectReplies(t, append(before, "told 0", "told 1", "told 2", "told 3", "run 1", "told 3", "told 4"),
		[]string{"ok", "ok", "ok", "ok", "ok 2", "err 5", "ok 0 0", "ok 1 7", "err 5", "ok 1", "ok 0 7", "err 5"})
}

// A script goes on after each of its errors as if the line had not been.
func TestP160WrongLinesEverywhere(t *testing.T) {
	script := []string{
		"config 3 2 1 2", "slots 2", "waits 2 0 1", "store 0 5 7", "swap 1 5 8", "load 2 6", "put 0 5", "load 0 37", "at", "word 5",
		"run 4", "at", "told 1", "run 3", "line 1", "run 2", "word 5", "run 4000", "at", "told 3", "told 5", "line 1", "line 9", "word 5",
	}
	want := tell(t, script)
	wrong := slices.Concat(notCommands, []string{
		"config 3 2 1", "config 9 2 1 2", "config 2 2 2 x", "slots", "slots 0", "slots 01", "waits 10", "waits x", "waits ", "load 3 5", "load 0 64", "load 0", "store 0 5", "store 3 5 7", "store 0 5 x",
		"swap 0 64 1", "swap 0 5 1000000000000000", "put 0 5 7", "put 3 5", "run 4001", "run", "run 01", "at 0", "word", "word 64", "line 16", "line x", "told 0", "told 9", "told",
	})
	for _, line := range wrong {
		var lines []string
		for _, l := range script {
			lines = append(lines, l, line)
		}
		for i, r := range tell(t, lines) {
			if i%2 == 0 && r != want[i/2] {
				t.Fatalf("with %q between the lines the reply to %q is %q, want %q", line, lines[i], r, want[i/2])
			}
			if i%2 == 1 && !strings.HasPrefix(r, "err ") {
				t.Fatalf("behind %q the reply to %q is %q", lines[i-1], line, r)
			}
		}
	}
}

// The word comes before the form, and the form before the numbers and the state of the desk.
func TestP160AllErrorsOfALine(t *testing.T) {
	lines := map[string][]string{
		"err 1": {"wait 10 x", "what 2 64 x", " store 2 64 7", "stores 2 64 x", "runs 04001", "tell 0"},
		"err 3": {
			"store 2 64 x", "store 2 64", "store x 64 7", "store 2 01 7", "load 9 64 7", "swap 9 64 1000000000000000", "put 9 064",
			"config 9 9 9 09", "config 9 9 9", "slots 09", "slots 9 9", "waits 10 01", "waits 01 10", "waits 10 ",
			"run 04001", "run 4001 1", "word 064", "word 64 64", "line 016", "line 16 16", "told 00", "told 0 0", "at 1 2", "at x",
		},
	}
	for want, all := range lines {
		for _, line := range all {
			for _, before := range contexts {
				expectNothing(t, before, line, want)
			}
		}
	}
}
