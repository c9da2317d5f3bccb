package desk

import (
	"ringdove/api"
	"ringdove/machine"
)

// plan is what a new machine is made of. The nodes that the configuration does not have have no programs.
type plan struct {
	config   api.Config
	slots    int
	programs [api.MaxNodes][]api.Deed
	waits    []int
}

// firstPlan returns the plan with which every desk begins.
func firstPlan() plan {
	return plan{config: api.Config{Nodes: 2, Sets: 2, Ways: 2, Banks: 1}, slots: 1}
}

// build returns the new machine of the plan.
func (p *plan) build() (api.Machine, error) {
	// There are not more programs than nodes may be. If the configuration has more nodes, it has an error itself.
	nodes := min(p.config.Nodes, len(p.programs))
	m, e := machine.New(p.config, p.slots, p.programs[:nodes], p.waits)
	return m, errorOf(e)
}

// configure replaces the configuration, and empties all programs.
func (p *plan) configure(c api.Config) {
	p.config = c
	p.programs = [api.MaxNodes][]api.Deed{}
}

// add appends the operation to the program of its node.
func (p *plan) add(d api.Deed) error {
	if d.Node >= p.config.Nodes {
		return api.ErrRange
	}
	p.programs[d.Node] = append(p.programs[d.Node], d)
	return nil
}
