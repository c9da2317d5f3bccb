package desk_test

import (
	"fmt"
	"regexp"
	"slices"
	"strconv"
	"strings"
	"testing"

	"ringdove/api"
	"ringdove/desk"
	"ringdove/machine"
)

// kinds has the word of each kind of operation.
var kinds = map[string]api.Kind{"load": api.KLoad, "store": api.KStore, "swap": api.KSwap, "put": api.KPut}

// counts has the number of words behind the first one, or -1 for any number.
var counts = map[string]int{
	"config": 4, "slots": 1, "waits": -1, "load": 2, "store": 3, "swap": 3, "put": 2,
	"run": 1, "at": 0, "word": 1, "line": 1, "told": 1,
}

var numeral = regexp.MustCompile(`^(0|[1-9][0-9]{0,14})$`)

// model is what a desk is, by the document. It finds the errors of a change by itself, and what a query reports by the
// events and not by the machine, but for the states of lines.
type model struct {
	config  api.Config
	slots   int
	waits   []int
	progs   [][]api.Deed
	started bool
	machine api.Machine
	events  []api.Event
}

func newModel() *model {
	return &model{config: api.Config{Nodes: 2, Sets: 2, Ways: 2, Banks: 1}, slots: 1, progs: make([][]api.Deed, 2)}
}

// reply returns a reply without an error.
func reply(results ...any) string {
	return strings.TrimSpace(fmt.Sprintln(append([]any{"ok"}, results...)...))
}

func fail(e api.Errno) string { return fmt.Sprintf("err %d", e) }

func (d *model) tell(line string) string {
	words := strings.Split(line, " ")
	count, is := counts[words[0]]
	switch {
	case !is:
		return fail(api.ErrArg)
	case count >= 0 && len(words) != count+1:
		return fail(api.ErrForm)
	}
	var n []int
	for _, word := range words[1:] {
		if !numeral.MatchString(word) {
			return fail(api.ErrForm)
		}
		v, _ := strconv.Atoi(word)
		n = append(n, v)
	}
	switch words[0] {
	case "run":
		return d.run(n[0])
	case "at", "word", "line", "told":
		return d.query(words[0], n)
	}
	if d.started {
		return fail(api.ErrState)
	}
	return d.change(words[0], n)
}

func (d *model) change(word string, n []int) string {
	switch word {
	case "config":
		c := api.Config{Nodes: n[0], Sets: n[1], Ways: n[2], Banks: n[3]}
		if c.Nodes < 2 || c.Nodes > 8 || !slices.Contains([]int{1, 2, 4}, c.Sets) || c.Ways < 1 || c.Ways > 4 || c.Banks < 1 || c.Banks > 4 {
			return fail(api.ErrRange)
		}
		d.config, d.progs = c, make([][]api.Deed, c.Nodes)
	case "slots":
		if n[0] < 1 || n[0] > 8 {
			return fail(api.ErrRange)
		}
		d.slots = n[0]
	case "waits":
		if len(n) > 20 || len(n) > 0 && slices.Max(n) > 9 {
			return fail(api.ErrRange)
		}
		d.waits = n
	default:
		return d.add(kinds[word], n)
	}
	return reply()
}

func (d *model) add(k api.Kind, n []int) string {
	o := api.Deed{Node: n[0], Kind: k, Addr: n[1]}
	if len(n) == 3 {
		o.Value = uint64(n[2])
	}
	switch {
	case o.Node >= len(d.progs):
		return fail(api.ErrRange)
	case len(d.progs[o.Node]) == 20:
		return fail(api.ErrLarge)
	case o.Addr > 63:
		return fail(api.ErrRange)
	}
	d.progs[o.Node] = append(d.progs[o.Node], o)
	return reply()
}

func (d *model) run(cycles int) string {
	if cycles > 4000 {
		return fail(api.ErrRange)
	}
	if !d.started {
		d.machine, _ = machine.New(d.config, d.slots, d.progs, d.waits)
		d.started = true
	}
	var l []api.Event
	d.machine, l, _ = machine.Run(d.machine, cycles)
	d.events = append(d.events, l...)
	return reply(len(l))
}

func (d *model) query(word string, n []int) string {
	switch word {
	case "at":
		all := make([]any, d.config.Nodes)
		for node := range all {
			all[node] = d.performed(node)
		}
		return reply(all...)
	case "word":
		if n[0] > 63 {
			return fail(api.ErrRange)
		}
		return reply(d.value(n[0]))
	case "line":
		if n[0] > 15 {
			return fail(api.ErrRange)
		}
		return reply(d.states(n[0])...)
	}
	if n[0] == 0 || n[0] > len(d.events) {
		return fail(api.ErrNone)
	}
	v := d.events[n[0]-1]
	return reply(v.Deed.Node, v.Told)
}

// performed returns the number of events of the node.
func (d *model) performed(node int) int {
	n := 0
	for _, v := range d.events {
		if v.Deed.Node == node {
			n++
		}
	}
	return n
}

// value returns what the last event has written that writes to the address.
func (d *model) value(a int) uint64 {
	for _, v := range slices.Backward(d.events) {
		if v.Deed.Addr == a && (v.Deed.Kind == api.KStore || v.Deed.Kind == api.KSwap) {
			return v.Deed.Value
		}
	}
	return 0
}

// states returns the letter of each node's state of the line.
func (d *model) states(line int) []any {
	all := slices.Repeat([]any{"I"}, d.config.Nodes)
	for node, h := range d.machine.World.Caches {
		for _, r := range h {
			for _, x := range r.Ways {
				if x.At != api.I && x.Line == line {
					all[node] = "ISEOM"[x.At : x.At+1]
				}
			}
		}
	}
	return all
}

// modelOf returns the replies of a model.
func modelOf(lines []string) []string {
	d := newModel()
	replies := make([]string, len(lines))
	for i, line := range lines {
		replies[i] = d.tell(line)
	}
	return replies
}

func tell(t *testing.T, lines []string) []string {
	t.Helper()
	replies, e := desk.Tell(lines)
	if e != api.OK || len(replies) != len(lines) {
		t.Fatalf("Tell(%q) = %q, %d", lines, replies, e)
	}
	return replies
}

func expectReplies(t *testing.T, lines, want []string) {
	t.Helper()
	for i, r := range tell(t, lines) {
		if r != want[i] {
			t.Fatalf("after %q the reply to %q is %q, want %q", lines[:i], lines[i], r, want[i])
		}
	}
}

// expectModel expects the replies of a model.
func expectModel(t *testing.T, lines ...string) {
	t.Helper()
	expectReplies(t, lines, modelOf(lines))
}

// expectSession expects the replies that the text has behind " | ". There is a line of the desk in each of its lines.
func expectSession(t *testing.T, text string) {
	t.Helper()
	var lines, want []string
	for l := range strings.Lines(strings.TrimSpace(text)) {
		line, r, _ := strings.Cut(strings.TrimSpace(l), " | ")
		lines, want = append(lines, line), append(want, r)
	}
	expectReplies(t, lines, want)
	expectModel(t, lines...)
}

// words joins numbers and strings to a line.
func words(all ...any) string { return strings.TrimSuffix(fmt.Sprintln(all...), "\n") }
