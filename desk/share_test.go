package desk_test

import (
	"slices"
	"strings"
	"sync"
	"testing"

	"ringdove/api"
	"ringdove/desk"
)

// scripts has scripts with and without errors, and one that is too long.
func scripts() [][]string {
	d := dice(7)
	all := [][]string{nil, {"at"}, {"what"}, slices.Repeat([]string{"at"}, 60), slices.Repeat([]string{"at"}, 61)}
	for range 20 {
		all = append(all, d.script())
	}
	return all
}

func TestP160WhatWasPassedInIsUnchanged(t *testing.T) {
	for _, script := range scripts() {
		for _, room := range []int{0, 1, 5, 70} {
			whole := slices.Concat(script, slices.Repeat([]string{"beyond the length"}, room))
			before := slices.Clone(whole)
			desk.Tell(whole[:len(script)])
			if !slices.Equal(whole, before) {
				t.Errorf("Tell(%q) has changed its lines: %q", before, whole)
			}
		}
	}
}

func TestP160ResultsShareNoMemory(t *testing.T) {
	for _, script := range scripts() {
		lines := slices.Clone(script)
		first, e := desk.Tell(lines)
		want := slices.Clone(first)
		// Neither the replies to the same lines nor the lines are changed through the replies.
		second, _ := desk.Tell(lines)
		for i := range first[:cap(first)] {
			first[:cap(first)][i] = "scribbled"
		}
		if !slices.Equal(lines, script) || !slices.Equal(second, want) {
			t.Errorf("the replies to %q share memory", script)
		}
		for i := range lines {
			lines[i] = "scribbled"
		}
		if !slices.Equal(second, want) {
			t.Errorf("the replies to %q share memory with the lines", script)
		}
		if third, f := desk.Tell(script); !slices.Equal(third, want) || f != e {
			t.Errorf("Tell(%q) = %q, %d, and later %q, %d", script, want, e, third, f)
		}
	}
}

// Desks that are told at the same time do not know of each other.
func TestP160DesksAreApart(t *testing.T) {
	all := scripts()
	replies, errors := make([][]string, len(all)), make([]api.Errno, len(all))
	var group sync.WaitGroup
	for i := range all {
		group.Go(func() { replies[i], errors[i] = desk.Tell(all[i]) })
	}
	group.Wait()
	for i, script := range all {
		want, e := desk.Tell(script)
		if !slices.Equal(replies[i], want) || errors[i] != e {
			t.Errorf("Tell(%q) = %q, %d, and alone %q, %d", script, replies[i], errors[i], want, e)
		}
	}
}

func TestP160LongLines(t *testing.T) {
	for _, n := range []int{1000, 100000} {
		for line, want := range map[string]string{
			strings.Repeat(" ", n):                     "err 1",
			strings.Repeat("a", n):                     "err 1",
			strings.Repeat("at", n):                    "err 1",
			strings.Repeat("at ", n):                   "err 3",
			"at" + strings.Repeat(" ", n):              "err 3",
			"waits" + strings.Repeat(" ", n):           "err 3",
			"waits" + strings.Repeat(" 0", n):          "err 4",
			"waits" + strings.Repeat(" 0", n) + " 01":  "err 3",
			"word " + strings.Repeat("0", n):           "err 3",
			"word " + strings.Repeat("1", n):           "err 3",
			"store 0 5 7" + strings.Repeat(" 1", n):    "err 3",
			"run 1" + strings.Repeat(" ", n):           "err 3",
			"told 1" + strings.Repeat("\x00", n):       "err 3",
			"\xff" + strings.Repeat("\xff", n) + " 1":  "err 1",
			"slots \xff" + strings.Repeat("\xff", n):   "err 3",
			"line " + strings.Repeat("\u0660", n):      "err 3",
			"put 0 5" + strings.Repeat("\n", n) + "at": "err 3",
		} {
			if r := tell(t, []string{line})[0]; r != want {
				t.Errorf("the reply to %.20q... is %q, want %q", line, r, want)
			}
		}
	}
}
