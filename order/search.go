package order

import (
	"ringdove/api"
	"ringdove/atomic"
)

// point is a state of the search. What can follow depends on nothing else, in whatever order the logs were used so far.
type point struct {
	at     [api.MaxNodes]int // how many observations of each log have been used
	memory api.Memory
}

// step is a point on the way, and the log to be tried next there. The log before it is the one that was taken.
type step struct {
	point point
	next  int
}

// search returns the lexicographically smallest legal order of at most MaxNodes logs, and whether there is one.
// Logs are tried in the order of their indices, so the first order that is found is the smallest one.
func search(m api.Memory, logs [][]api.Told) ([]int, bool) {
	nowhere := map[point]bool{}
	way := []step{{point: point{memory: m}}}
	last := count(logs)

forward:
	for len(way) <= last {
		here := &way[len(way)-1]
		for here.next < len(logs) {
			there, legal := here.point.after(logs, here.next)
			here.next++
			if legal && !nowhere[there] {
				way = append(way, step{point: there})
				continue forward
			}
		}
		nowhere[here.point] = true
		way = way[:len(way)-1]
		if len(way) == 0 {
			return nil, false
		}
	}
	return taken(way[:last]), true
}

// after returns the point after the next observation of the log, and whether there is one that is legal here.
func (p point) after(logs [][]api.Told, log int) (point, bool) {
	if p.at[log] == len(logs[log]) {
		return point{}, false
	}
	o := logs[log][p.at[log]]
	m, v, e := atomic.Do(p.memory, o.Deed)
	if e != api.OK || !hasResult(o, v) {
		return point{}, false
	}
	// p is a copy, and the point on the way stays as it is.
	p.at[log]++
	p.memory = m
	return p, true
}

// taken returns the logs that were taken on the way.
func taken(way []step) []int {
	picks := make([]int, len(way))
	for i, s := range way {
		picks[i] = s.next - 1
	}
	return picks
}
