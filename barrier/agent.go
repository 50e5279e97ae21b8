package barrier

// Agent is a shard's agent.
type Agent struct {
	// self is the agent itself: a copy by value would share what is committed, and counts as one that nobody made.
	self   *Agent
	frozen int
	// prepared and committed are durable.
	prepared  int
	committed map[int]struct{}
}

// NewAgent is one.
func NewAgent() *Agent {
	a := &Agent{committed: map[int]struct{}{}}
	a.self = a
	return a
}

// given tells whether the agent is one of NewAgent's.
func (a *Agent) given() bool { return a != nil && a.self == a }

// Order takes an order: its answer.
func (a *Agent) Order(kind, id int) int {
	if !a.given() || id < 1 {
		return 0
	}
	switch kind {
	case orderFreeze:
		return a.freeze(id)
	case orderSnap:
		return a.snap(id)
	case orderCommit:
		return a.commit(id)
	case orderAbort:
		return a.abort(id)
	}
	return 0
}

// freeze freezes it for a snapshot.
func (a *Agent) freeze(id int) int {
	if a.Committed(id) || other(a.frozen, id) || other(a.prepared, id) {
		return answerRefused
	}
	a.frozen = id
	return answerFrozen
}

// other tells whether one of two snapshots is there, and not the other one.
func other(there, id int) bool { return there != 0 && there != id }

// snap prepares the snapshot for which it is frozen.
func (a *Agent) snap(id int) int {
	// What is prepared stays so behind a crash, also where it is frozen no more.
	if a.prepared == id {
		return answerSnapped
	}
	if a.frozen != id {
		return answerRefused
	}
	a.prepared = id
	return answerSnapped
}

// commit commits the snapshot that is prepared.
func (a *Agent) commit(id int) int {
	switch {
	case a.prepared == id:
		a.committed[id] = struct{}{}
		a.prepared, a.frozen = 0, 0
		return answerDone
	case a.Committed(id):
		// The answer to the first order may have been lost.
		return answerDone
	}
	return answerRefused
}

// abort lets a snapshot go that is not committed.
func (a *Agent) abort(id int) int {
	if a.Committed(id) {
		return answerRefused
	}
	if a.frozen == id {
		a.frozen = 0
	}
	if a.prepared == id {
		a.prepared = 0
	}
	return answerDone
}

// Crash loses what is not durable.
func (a *Agent) Crash() {
	if a.given() {
		a.frozen = 0
	}
}

// Frozen is for which snapshot it is frozen.
func (a *Agent) Frozen() int {
	if !a.given() {
		return 0
	}
	return a.frozen
}

// Prepared is the snapshot that is prepared.
func (a *Agent) Prepared() int {
	if !a.given() {
		return 0
	}
	return a.prepared
}

// Committed tells whether one is committed.
func (a *Agent) Committed(id int) bool {
	if !a.given() {
		return false
	}
	_, is := a.committed[id]
	return is
}
