package desk_test

import (
	"fmt"
	"slices"
	"testing"
)

// dice is a simple sequence of numbers that look random, and are the same in each test.
type dice uint64

// roll returns a number from 0 to n - 1.
func (d *dice) roll(n int) int {
	*d = *d*6364136223846793005 + 1442695040888963407
	return int(uint64(*d) >> 33 % uint64(n))
}

func (d *dice) pick(all ...string) string { return all[d.roll(len(all))] }

// number returns a number from 0 to n - 1, or now and then a wrong word or a number that may be wrong.
func (d *dice) number(n int) string {
	if d.roll(40) == 0 {
		return d.pick("", "00", "01", "x", "-1", "1000000000000000", "999999999999999", "64", "4001", "0")
	}
	return fmt.Sprint(d.roll(n))
}

// setup returns a line that changes the machine, mostly an operation of one of the nodes.
func (d *dice) setup(nodes int) string {
	switch d.roll(25) {
	case 0:
		return words("config", d.number(10), d.number(6), d.number(6), d.number(6))
	case 1:
		return words("slots", d.number(10))
	case 2:
		line := "waits"
		for range d.roll(24) {
			line += " " + d.number(10)
		}
		return line
	case 3:
		return words("put", d.number(nodes), d.number(12))
	case 4:
		return words(d.pick("load", "put"), d.number(nodes+1), d.number(65))
	case 5, 6, 7, 8, 9:
		return words("load", d.number(nodes), d.number(12))
	case 10, 11, 12, 13:
		return words("swap", d.number(nodes), d.number(12), d.number(1000000))
	}
	return words("store", d.number(nodes), d.number(12), d.number(1000000))
}

// query returns a line that reports on the machine.
func (d *dice) query() string {
	switch d.roll(5) {
	case 0:
		return d.pick("at", "at", "at", "at ", "at 0", "At")
	case 1, 2:
		return words("word", d.number(12))
	case 3:
		return words("line", d.number(4))
	}
	return words("told", d.number(12))
}

// script returns a script that first changes the machine, and then runs it and reports on it.
func (d *dice) script() []string {
	nodes, setups, all := 2+d.roll(7), d.roll(50), 1+d.roll(60)
	lines := []string{words("config", nodes, 1<<d.roll(3), 1+d.roll(4), 1+d.roll(4)), words("slots", 1+d.roll(8))}
	for len(lines) < all {
		switch {
		case d.roll(15) == 0:
			lines = append(lines, d.query())
		case len(lines) < setups || d.roll(20) == 0:
			lines = append(lines, d.setup(nodes))
		case d.roll(3) == 0:
			lines = append(lines, words("run", d.number(60)))
		default:
			lines = append(lines, d.query())
		}
	}
	return lines[:min(len(lines), all)]
}

func TestP160ManyScripts(t *testing.T) {
	d := dice(1)
	for range 4000 {
		lines := d.script()
		expectModel(t, lines...)
		// The order of all lines may be any one.
		slices.Reverse(lines)
		expectModel(t, lines...)
	}
}
