package barrier_test

import (
	"fmt"
	"math"
	"math/rand"
	"slices"
	"testing"

	"jackstay/barrier"
)

// The orders, and the answers.
const (
	freeze = 1
	snap   = 2
	commit = 3
	abort  = 4

	frozen  = 11
	snapped = 12
	done    = 13
	refused = 14
)

// far are numbers of which none is a snapshot, an agent, an order or an answer, though some are like one in 32 bits.
var far = []int{math.MinInt, math.MinInt + 1, -1 << 32, -1<<32 + 1, -1<<32 + 13, -1 << 31, -14, -2, -1, 5, 10, 15, 16, 1 << 31, 1<<32 + 1, 1<<32 + 2, 1<<32 + 11, 1<<32 + 14, math.MaxInt - 1, math.MaxInt}

// agentModel is what an agent should be. Its list is never written into, so that copies go on apart.
type agentModel struct {
	frozen, prepared int
	committed        []int
}

// order is what Order should answer.
func (m *agentModel) order(kind, id int) int {
	if id < 1 {
		return 0
	}
	is := slices.Contains(m.committed, id)
	switch kind {
	case freeze:
		if is || m.frozen != 0 && m.frozen != id || m.prepared != 0 && m.prepared != id {
			return refused
		}
		m.frozen = id
		return frozen
	case snap:
		if m.prepared == id {
			return snapped
		}
		if m.frozen == id {
			m.prepared = id
			return snapped
		}
		return refused
	case commit:
		if m.prepared == id {
			m.committed = append(slices.Clip(m.committed), id)
			m.prepared = 0
			m.frozen = 0
			return done
		}
		if is {
			return done
		}
		return refused
	case abort:
		if is {
			return refused
		}
		if m.frozen == id {
			m.frozen = 0
		}
		if m.prepared == id {
			m.prepared = 0
		}
		return done
	}
	return 0
}

// agent is an agent, and what it should be.
type agent struct {
	*barrier.Agent
	m agentModel
}

func freshAgent(t *testing.T) *agent {
	t.Helper()
	a := &agent{Agent: barrier.NewAgent()}
	if a.Agent == nil {
		t.Fatal("NewAgent: none")
	}
	return a
}

// stands asks for all that can be seen of an agent, and of some snapshots whether they are committed.
func (a *agent) stands(t *testing.T, ids []int) {
	t.Helper()
	if a.Frozen() != a.m.frozen || a.Prepared() != a.m.prepared {
		t.Fatalf("frozen for %d, prepared %d: it should be %+v", a.Frozen(), a.Prepared(), a.m)
	}
	for _, id := range ids {
		if got := a.Committed(id); got != slices.Contains(a.m.committed, id) {
			t.Fatalf("Committed(%d): %v, of %v", id, got, a.m.committed)
		}
	}
}

func (a *agent) order(t *testing.T, kind, id int) int {
	t.Helper()
	before := a.m
	want := a.m.order(kind, id)
	if got := a.Order(kind, id); got != want {
		t.Fatalf("Order(%d, %d) of %+v: %d, and not %d", kind, id, before, got, want)
	}
	return want
}

func (a *agent) crash() {
	a.m.frozen = 0
	a.Crash()
}

// deed is something that is done to an agent: an order, or a crash (of the kind crashed).
type deed struct{ kind, id int }

const crashed = -99

func (a *agent) do(t *testing.T, d deed) {
	t.Helper()
	if d.kind == crashed {
		a.crash()
		return
	}
	a.order(t, d.kind, d.id)
}

// after is an agent to which some things were done.
func after(t *testing.T, way []deed) *agent {
	t.Helper()
	a := freshAgent(t)
	for _, d := range way {
		a.do(t, d)
	}
	return a
}

// key is what tells a model from others.
func (m agentModel) key() string {
	l := slices.Clone(m.committed)
	slices.Sort(l)
	return fmt.Sprint(m.frozen, m.prepared, l)
}

// agentWays are ways to all states to which orders of some snapshots, and crashes, lead an agent.
func agentWays(t *testing.T, ids int) [][]deed {
	t.Helper()
	deeds := []deed{{crashed, 0}}
	for kind := freeze; kind <= abort; kind++ {
		for id := 1; id <= ids; id++ {
			deeds = append(deeds, deed{kind, id})
		}
	}
	ways := [][]deed{nil}
	seen := map[string]bool{agentModel{}.key(): true}
	for i := 0; i < len(ways); i++ {
		for _, d := range deeds {
			way := append(slices.Clip(ways[i]), d)
			if key := after(t, way).m.key(); !seen[key] {
				seen[key] = true
				ways = append(ways, way)
			}
		}
	}
	return ways
}

// P17.1: of three snapshots, each order, and a crash, at each state; and what is no order, or no snapshot.
func TestAgent(t *testing.T) {
	ids := append([]int{0, 1, 2, 3, 4}, far...)
	kinds := append([]int{crashed, 0, freeze, snap, commit, abort, frozen, snapped, done, refused}, far...)
	ways := agentWays(t, 3)
	if len(ways) < 30 {
		t.Fatalf("%d states", len(ways))
	}
	for _, way := range ways {
		for _, kind := range kinds {
			for _, id := range ids {
				a := after(t, way)
				a.do(t, deed{kind, id})
				a.stands(t, ids)
				// What was not told at once may be told by what is done next.
				a.do(t, deed{freeze, 1})
				a.do(t, deed{snap, 1})
				a.stands(t, ids)
			}
		}
	}
}

// P17.1: each way of up to five orders and crashes, of two snapshots.
func TestAgentWays(t *testing.T) {
	deeds := []deed{{crashed, 0}}
	for kind := freeze; kind <= abort; kind++ {
		deeds = append(deeds, deed{kind, 1}, deed{kind, math.MaxInt})
	}
	ids := []int{0, 1, 2, math.MaxInt}
	var try func(way []deed)
	try = func(way []deed) {
		after(t, way).stands(t, ids)
		for _, d := range deeds {
			if len(way) < 5 {
				try(append(slices.Clip(way), d))
			}
		}
	}
	try(nil)
}

// P17.1: the way of one snapshot, and what each order answers on it, written out.
func TestAgentOrders(t *testing.T) {
	type row struct{ kind, id, want, frozen, prepared int }
	rows := []row{
		{commit, 7, refused, 0, 0},
		{snap, 7, refused, 0, 0},
		{abort, 7, done, 0, 0},
		{freeze, 7, frozen, 7, 0},
		{freeze, 7, frozen, 7, 0},
		{freeze, 8, refused, 7, 0},
		{snap, 8, refused, 7, 0},
		{abort, 8, done, 7, 0},
		{commit, 7, refused, 7, 0},
		{snap, 7, snapped, 7, 7},
		{snap, 7, snapped, 7, 7},
		{freeze, 7, frozen, 7, 7},
		{freeze, 8, refused, 7, 7},
		{crashed, 0, 0, 0, 7},
		{freeze, 8, refused, 0, 7},
		{snap, 8, refused, 0, 7},
		{snap, 7, snapped, 0, 7},
		{freeze, 7, frozen, 7, 7},
		{commit, 8, refused, 7, 7},
		{abort, 7, done, 0, 0},
		{snap, 7, refused, 0, 0},
		{freeze, 7, frozen, 7, 0},
		{snap, 7, snapped, 7, 7},
		{crashed, 0, 0, 0, 7},
		{commit, 7, done, 0, 0},
		{commit, 7, done, 0, 0},
		{freeze, 7, refused, 0, 0},
		{snap, 7, refused, 0, 0},
		{abort, 7, refused, 0, 0},
		{freeze, 8, frozen, 8, 0},
		{commit, 7, done, 8, 0},
		{crashed, 0, 0, 0, 0},
		{snap, 8, refused, 0, 0},
	}
	a := barrier.NewAgent()
	for i, r := range rows {
		got := 0
		if r.kind == crashed {
			a.Crash()
		} else {
			got = a.Order(r.kind, r.id)
		}
		if got != r.want || a.Frozen() != r.frozen || a.Prepared() != r.prepared || a.Committed(7) != (i >= 24) || a.Committed(8) {
			t.Fatalf("%d, %+v: %d, frozen for %d, prepared %d, committed: %v", i, r, got, a.Frozen(), a.Prepared(), a.Committed(7))
		}
	}
}

// P17.1: long ways of snapshots that are near each other, far from each other, or like each other in 32 bits.
func TestAgentLong(t *testing.T) {
	ids := []int{0, 1, 2, 3, 1 << 31, 1<<31 + 1, 1 << 32, 1<<32 + 1, 1<<32 + 2, math.MaxInt - 1, math.MaxInt, math.MinInt, math.MinInt + 1, -1}
	for seed := range int64(200) {
		dice := rand.New(rand.NewSource(seed))
		a := freshAgent(t)
		for range 200 {
			id := ids[dice.Intn(len(ids))]
			switch dice.Intn(12) {
			case 0:
				a.crash()
			case 1:
				a.order(t, dice.Intn(20)-2, id)
			case 2, 3, 4:
				a.order(t, freeze, id)
			case 5, 6, 7:
				a.order(t, snap, a.m.frozen)
			case 8:
				a.order(t, commit, a.m.prepared)
			case 9:
				a.order(t, abort, max(a.m.prepared, a.m.frozen))
			default:
				a.order(t, 1+dice.Intn(4), id)
			}
			a.stands(t, ids)
		}
	}
}

// P17.1: what is committed stays so, however much is.
func TestAgentMany(t *testing.T) {
	const many = 50000
	a := barrier.NewAgent()
	for i := range many {
		id := 2*i + 1
		if got := [3]int{a.Order(freeze, id), a.Order(snap, id), a.Order(commit, id)}; got != [3]int{frozen, snapped, done} {
			t.Fatalf("of %d: %v", id, got)
		}
		a.Crash()
	}
	for i := range many {
		if !a.Committed(2*i+1) || a.Committed(2*i+2) || a.Committed(2*i) {
			t.Fatalf("round %d", 2*i+1)
		}
	}
}

// P17.1, R3: agents are apart; the same orders have the same answers.
func TestAgentsApart(t *testing.T) {
	dice := rand.New(rand.NewSource(1))
	agents := []*agent{freshAgent(t), freshAgent(t), freshAgent(t)}
	for range 20000 {
		a := agents[dice.Intn(3)]
		a.do(t, deed{[]int{crashed, freeze, snap, commit, abort}[dice.Intn(5)], 1 + dice.Intn(40)})
		for _, each := range agents {
			each.stands(t, []int{1 + dice.Intn(40)})
		}
	}
}

// P17.4, R1: agents that are nil, and ones that NewAgent did not give: nothing, and 0.
func TestAgentNone(t *testing.T) {
	real := barrier.NewAgent()
	real.Order(freeze, 1)
	real.Order(snap, 1)
	copied := *real
	for name, a := range map[string]*barrier.Agent{"nil": nil, "not made": {}, "copied": &copied} {
		for range 2 {
			for _, kind := range append([]int{0, freeze, snap, commit, abort}, far...) {
				for _, id := range append([]int{0, 1, 2}, far...) {
					if got := a.Order(kind, id); got != 0 {
						t.Fatalf("%s: Order(%d, %d): %d", name, kind, id, got)
					}
					if a.Committed(id) {
						t.Fatalf("%s: Committed(%d)", name, id)
					}
				}
			}
			if a.Frozen() != 0 || a.Prepared() != 0 {
				t.Fatalf("%s: frozen for %d, prepared %d", name, a.Frozen(), a.Prepared())
			}
			a.Crash()
		}
	}
	if real.Frozen() != 1 || real.Prepared() != 1 || real.Committed(1) {
		t.Fatalf("frozen for %d, prepared %d", real.Frozen(), real.Prepared())
	}
}
