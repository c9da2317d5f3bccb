// Package addr defines the addresses and the configuration of a multiprocessor with caches: see ../shared/doc/01-addr.md.
package addr

import "ringdove/api"

// Bounds of a configuration for which package api has no constant.
const (
	minNodes = 2
	maxBanks = 4
)

// Check returns ErrRange if a number of the configuration is out of range.
func Check(c api.Config) api.Errno {
	if !within(c.Nodes, minNodes, api.MaxNodes) ||
		!isSets(c.Sets) ||
		!within(c.Ways, 1, api.MaxWays) ||
		!within(c.Banks, 1, maxBanks) {
		return api.ErrRange
	}
	return api.OK
}

// Line returns the line of address a, and the index of its word in the line.
func Line(a int) (int, int, api.Errno) {
	if !within(a, 0, api.Lines*api.Words-1) {
		return 0, 0, api.ErrRange
	}
	return a / api.Words, a % api.Words, api.OK
}

// Set returns the number of the set in which a cache keeps the line.
func Set(c api.Config, line int) (int, api.Errno) {
	if e := checkLine(c, line); e != api.OK {
		return 0, e
	}
	return line % c.Sets, api.OK
}

// Bank returns the number of the memory bank to which the line belongs.
func Bank(c api.Config, line int) (int, api.Errno) {
	if e := checkLine(c, line); e != api.OK {
		return 0, e
	}
	return line % c.Banks, api.OK
}

// Node returns the node that is n positions after from in the ring of nodes.
func Node(c api.Config, from, n int) (int, api.Errno) {
	if e := Check(c); e != api.OK {
		return 0, e
	}
	if !within(from, 0, c.Nodes-1) || n < 0 {
		return 0, api.ErrRange
	}
	// Whole rounds are removed first, because from + n can overflow.
	return (from + n%c.Nodes) % c.Nodes, api.OK
}

func checkLine(c api.Config, line int) api.Errno {
	if e := Check(c); e != api.OK {
		return e
	}
	if !within(line, 0, api.Lines-1) {
		return api.ErrRange
	}
	return api.OK
}

func isSets(n int) bool {
	return n == 1 || n == 2 || n == api.MaxSets
}

func within(n, low, high int) bool {
	return low <= n && n <= high
}
