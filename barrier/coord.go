package barrier

import (
	"jackstay/api"
)

const (
	// mostAgents is how many agents a coordinator may have.
	mostAgents = 16
	// mostRun is how many snapshots may have run.
	mostRun = 1024
)

// Coord is a coordinator.
type Coord struct {
	// self is the coordinator itself: a copy by value would share what has run, and counts as one that nobody made.
	self   *Coord
	agents int
	phase  int
	// id is the snapshot that runs, or 0.
	id int
	// open are the agents that have not answered in this phase, by number.
	open []int
	// ended is what each snapshot that has run has come to.
	ended map[int]int
}

// New is one of some agents.
func New(agents int) (*Coord, api.Errno) {
	if agents < 1 || agents > mostAgents {
		return nil, api.ErrArg
	}
	c := &Coord{agents: agents, ended: map[int]int{}}
	c.self = c
	return c, api.OK
}

// given tells whether the coordinator is one of New's.
func (c *Coord) given() bool { return c != nil && c.self == c }

// Begin begins a snapshot.
func (c *Coord) Begin(id int) api.Errno {
	switch {
	case !c.given():
		return api.ErrNil
	case id < 1:
		return api.ErrArg
	case c.phase != idle:
		return api.ErrState
	case c.ended[id] != unknown:
		return api.ErrTwice
	case len(c.ended) >= mostRun:
		return api.ErrMany
	}
	c.id = id
	c.enter(freezing)
	return api.OK
}

// enter goes over to a phase: none has answered in it.
func (c *Coord) enter(phase int) {
	c.phase = phase
	c.open = nil
	for agent := range c.agents {
		c.open = append(c.open, agent)
	}
}

// Step are the orders of now.
func (c *Coord) Step() []Order {
	if !c.given() {
		return nil
	}
	var l []Order
	for _, agent := range c.open {
		l = append(l, Order{Agent: agent, Kind: c.phase, Id: c.id})
	}
	return l
}

// Hear takes an answer.
func (c *Coord) Hear(agent, kind, id int) api.Errno {
	switch {
	case !c.given():
		return api.ErrNil
	case agent < 0 || agent >= c.agents || kind < answerFrozen || kind > answerRefused:
		return api.ErrArg
	case c.phase == idle || id != c.id:
		return api.ErrState
	}
	switch {
	case kind == answerRefused && !c.decided():
		c.enter(aborting)
	case kind == c.awaited():
		c.answered(agent)
	}
	return api.OK
}

// decided tells whether it is decided to commit, or to abort.
func (c *Coord) decided() bool { return c.phase == committing || c.phase == aborting }

// awaited is the answer to the orders of the phase.
func (c *Coord) awaited() int {
	switch c.phase {
	case freezing:
		return answerFrozen
	case snapping:
		return answerSnapped
	}
	return answerDone
}

// answered notes that an agent has answered, and goes on if it was the last one.
func (c *Coord) answered(agent int) {
	c.open = without(c.open, agent)
	if len(c.open) > 0 {
		return
	}
	switch c.phase {
	case freezing:
		c.enter(snapping)
	case snapping:
		c.enter(committing)
	default:
		c.ended[c.id] = c.outcome()
		c.phase, c.id = idle, 0
	}
}

// without is a list without the things that are like one.
func without[T comparable](list []T, gone T) []T {
	var left []T
	for _, thing := range list {
		if thing != gone {
			left = append(left, thing)
		}
	}
	return left
}

// outcome is what the snapshot that runs has come to up to now.
func (c *Coord) outcome() int {
	switch c.phase {
	case committing:
		return committed
	case aborting:
		return aborted
	}
	return running
}

// Abort decides to abort.
func (c *Coord) Abort() api.Errno {
	switch {
	case !c.given():
		return api.ErrNil
	case c.phase == idle || c.decided():
		return api.ErrState
	}
	c.enter(aborting)
	return api.OK
}

// Crash loses what is not durable.
func (c *Coord) Crash() {
	switch {
	case !c.given() || c.phase == idle:
		return
	case c.decided():
		c.enter(c.phase)
	default:
		c.enter(aborting)
	}
}

// Phase is the phase, and the snapshot that runs.
func (c *Coord) Phase() (int, int) {
	if !c.given() {
		return 0, 0
	}
	return c.phase, c.id
}

// State is what a snapshot has come to.
func (c *Coord) State(id int) int {
	switch {
	case !c.given():
		return unknown
	case c.phase != idle && id == c.id:
		return c.outcome()
	}
	return c.ended[id]
}
