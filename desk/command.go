package desk

import (
	"strconv"

	"ringdove/addr"
	"ringdove/agree"
	"ringdove/api"
	"ringdove/cache"
	"ringdove/state"
)

// anyCount is the count of a command that may have any number of numbers.
const anyCount = -1

// action executes a command with its numbers, and returns its results.
type action func(d *desk, n []int) ([]string, error)

// command has the count of the numbers behind the word.
type command struct {
	count int
	do    action
}

// find returns the command with this word, and whether there is one.
func find(word string) (command, bool) {
	commands := map[string]command{
		"config": {4, (*desk).setConfig},
		"slots":  {1, (*desk).setSlots},
		"waits":  {anyCount, (*desk).setWaits},
		"load":   {2, adding(api.KLoad)},
		"store":  {3, adding(api.KStore)},
		"swap":   {3, adding(api.KSwap)},
		"put":    {2, adding(api.KPut)},
		"run":    {1, (*desk).run},
		"at":     {0, (*desk).at},
		"word":   {1, (*desk).word},
		"line":   {1, (*desk).line},
		"told":   {1, (*desk).told},
	}
	c, is := commands[word]
	return c, is
}

func (d *desk) setConfig(n []int) ([]string, error) {
	return d.change(func(p *plan) error {
		p.configure(api.Config{Nodes: n[0], Sets: n[1], Ways: n[2], Banks: n[3]})
		return nil
	})
}

func (d *desk) setSlots(n []int) ([]string, error) {
	return d.change(func(p *plan) error {
		p.slots = n[0]
		return nil
	})
}

func (d *desk) setWaits(n []int) ([]string, error) {
	return d.change(func(p *plan) error {
		p.waits = n
		return nil
	})
}

// adding returns the command that appends an operation of the kind. The numbers are node, address and, for a kind
// that writes, value.
func adding(kind api.Kind) action {
	return func(d *desk, n []int) ([]string, error) {
		o := api.Deed{Node: n[0], Kind: kind, Addr: n[1]}
		if len(n) > 2 {
			o.Value = uint64(n[2])
		}
		return d.change(func(p *plan) error { return p.add(o) })
	}
}

// at returns the number of performed operations of each node.
func (d *desk) at([]int) ([]string, error) {
	m, err := d.current()
	if err != nil {
		return nil, err
	}
	var numbers []string
	for _, n := range m.At {
		numbers = append(numbers, strconv.Itoa(n))
	}
	return numbers, nil
}

// word returns the word at the address, wherever its current value is.
func (d *desk) word(n []int) ([]string, error) {
	line, word, e := addr.Line(n[0])
	if e != api.OK {
		return nil, e
	}
	m, err := d.current()
	if err != nil {
		return nil, err
	}
	flat, e := agree.Flat(m.Config, m.World)
	if e != api.OK {
		return nil, e
	}
	return []string{textOf(flat[line][word])}, nil
}

// line returns the name of each node's state of the line.
func (d *desk) line(n []int) ([]string, error) {
	m, err := d.current()
	if err != nil {
		return nil, err
	}
	if _, _, e := agree.Holders(m.Config, m.World, n[0]); e != api.OK {
		return nil, e
	}
	var names []string
	for _, h := range m.World.Caches {
		x, _, e := cache.Find(m.Config, h, n[0])
		if e != api.OK {
			return nil, e
		}
		names = append(names, state.Name(x.At))
	}
	return names, nil
}

// told returns the node and the result of an event. The first event has the number 1.
func (d *desk) told(n []int) ([]string, error) {
	if n[0] < 1 || n[0] > len(d.events) {
		return nil, api.ErrNone
	}
	v := d.events[n[0]-1]
	return []string{strconv.Itoa(v.Deed.Node), textOf(v.Told)}, nil
}

func textOf(v uint64) string { return strconv.FormatUint(v, 10) }
