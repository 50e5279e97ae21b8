package barrier_test

import (
	"fmt"
	"maps"
	"math"
	"math/rand"
	"runtime"
	"slices"
	"testing"

	"jackstay/api"
	"jackstay/barrier"
)

// most is how many snapshots may have run.
const most = 1024

// coordModel is what a coordinator should be. Its lists and maps are never written into, so that copies go on apart.
type coordModel struct {
	agents    int
	phase, id int
	answered  []bool
	ran       map[int]int
}

// turn goes over to a phase.
func (m *coordModel) turn(phase int) {
	m.phase = phase
	m.answered = make([]bool, m.agents)
}

func (m *coordModel) begin(id int) api.Errno {
	if id < 1 {
		return api.ErrArg
	}
	if m.phase != 0 {
		return api.ErrState
	}
	if m.ran[id] != 0 {
		return api.ErrTwice
	}
	if len(m.ran) == most {
		return api.ErrMany
	}
	m.id = id
	m.turn(1)
	return api.OK
}

func (m *coordModel) step() []barrier.Order {
	var l []barrier.Order
	for i := range m.agents {
		if m.phase != 0 && !m.answered[i] {
			l = append(l, barrier.Order{Agent: i, Kind: m.phase, Id: m.id})
		}
	}
	return l
}

func (m *coordModel) hear(agent, kind, id int) api.Errno {
	if agent < 0 || agent > m.agents-1 {
		return api.ErrArg
	}
	if kind != frozen && kind != snapped && kind != done && kind != refused {
		return api.ErrArg
	}
	if m.phase == 0 || id != m.id {
		return api.ErrState
	}
	answers := m.phase == 1 && kind == frozen || m.phase == 2 && kind == snapped || m.phase >= 3 && kind == done
	if m.phase <= 2 && kind == refused {
		m.turn(4)
	}
	if !answers {
		return api.OK
	}
	m.answered = slices.Clone(m.answered)
	m.answered[agent] = true
	if !slices.Contains(m.answered, false) {
		m.on()
	}
	return api.OK
}

// on goes on when all have answered.
func (m *coordModel) on() {
	switch m.phase {
	case 1, 2:
		m.turn(m.phase + 1)
	case 3, 4:
		m.ran = maps.Clone(m.ran)
		m.ran[m.id] = m.phase - 1
		m.phase, m.id = 0, 0
	}
}

func (m *coordModel) abort() api.Errno {
	if m.phase != 1 && m.phase != 2 {
		return api.ErrState
	}
	m.turn(4)
	return api.OK
}

func (m *coordModel) crash() {
	switch m.phase {
	case 1, 2:
		m.turn(4)
	case 3, 4:
		m.turn(m.phase)
	}
}

func (m *coordModel) state(id int) int {
	if m.phase == 0 || id != m.id {
		return m.ran[id]
	}
	return []int{0, 1, 1, 2, 3}[m.phase]
}

func (m *coordModel) key() string {
	return fmt.Sprint(m.phase, m.id, m.step(), m.ran)
}

// coord is a coordinator, and what it should be.
type coord struct {
	*barrier.Coord
	m coordModel
}

func freshCoord(t *testing.T, agents int) *coord {
	t.Helper()
	got, err := barrier.New(agents)
	if got == nil || err != api.OK {
		t.Fatalf("New(%d): %v, %v", agents, got, err)
	}
	return &coord{got, coordModel{agents: agents, ran: map[int]int{}}}
}

// stands asks for all that can be seen of a coordinator, and for the states of some snapshots.
func (c *coord) stands(t *testing.T, ids []int) {
	t.Helper()
	if phase, id := c.Phase(); phase != c.m.phase || id != c.m.id {
		t.Fatalf("Phase: %d, %d: it should be %s", phase, id, c.m.key())
	}
	if got := c.Step(); !slices.Equal(got, c.m.step()) {
		t.Fatalf("Step: %v: it should be %s", got, c.m.key())
	}
	for _, id := range ids {
		if got := c.State(id); got != c.m.state(id) {
			t.Fatalf("State(%d): %d: it should be %s", id, got, c.m.key())
		}
	}
}

// The kinds of acts.
const (
	begins = iota
	hears
	aborts
	crashes
)

// act is something that is done to a coordinator.
type act struct{ what, agent, kind, id int }

func (c *coord) do(t *testing.T, a act) api.Errno {
	t.Helper()
	before := c.m
	var got, want api.Errno
	switch a.what {
	case begins:
		got, want = c.Begin(a.id), c.m.begin(a.id)
	case hears:
		got, want = c.Hear(a.agent, a.kind, a.id), c.m.hear(a.agent, a.kind, a.id)
	case aborts:
		got, want = c.Abort(), c.m.abort()
	case crashes:
		c.Crash()
		c.m.crash()
	}
	if got != want {
		t.Fatalf("%+v of %s: %v, and not %v", a, before.key(), got, want)
	}
	return got
}

// behind is a coordinator to which some things were done.
func behind(t *testing.T, agents int, way []act) *coord {
	t.Helper()
	c := freshCoord(t, agents)
	for _, a := range way {
		c.do(t, a)
	}
	return c
}

// acts are some things that may be done to a coordinator: of each agent each answer.
func acts(agents, ids []int, kinds []int) []act {
	l := []act{{what: aborts}, {what: crashes}}
	for _, id := range ids {
		l = append(l, act{what: begins, id: id})
		for _, agent := range agents {
			for _, kind := range kinds {
				l = append(l, act{hears, agent, kind, id})
			}
		}
	}
	return l
}

// to are the numbers from first on to last.
func to(first, last int) []int {
	var l []int
	for n := first; n <= last; n++ {
		l = append(l, n)
	}
	return l
}

// coordWays are ways to all states to which two snapshots lead a coordinator.
func coordWays(t *testing.T, agents int) [][]act {
	t.Helper()
	all := acts(to(0, agents-1), []int{1, 2}, to(frozen, refused))
	ways := [][]act{nil}
	seen := map[string]bool{behind(t, agents, nil).m.key(): true}
	for i := 0; i < len(ways); i++ {
		for _, a := range all {
			c := behind(t, agents, ways[i])
			c.do(t, a)
			if key := c.m.key(); !seen[key] {
				seen[key] = true
				ways = append(ways, append(slices.Clip(ways[i]), a))
			}
		}
	}
	return ways
}

// P17.2, P17.3, P17.4: of up to three agents and two snapshots, each act at each state, with agents, answers and snapshots that are none.
func TestCoord(t *testing.T) {
	for agents := 1; agents <= 3; agents++ {
		all := acts(to(-1, agents), to(-1, 3), to(10, 15))
		for _, way := range coordWays(t, agents) {
			for _, a := range all {
				c := behind(t, agents, way)
				c.stands(t, to(-1, 3))
				c.do(t, a)
				c.stands(t, to(-1, 3))
			}
		}
	}
}

// P17.2, P17.3, R1: numbers that are far from any agent, answer or snapshot, at each state, with one thing wrong or more.
func TestCoordFar(t *testing.T) {
	agents := append([]int{0, 1, 2}, far...)
	kinds := append([]int{0, freeze, abort, frozen, refused}, far...)
	ids := append([]int{0, 1, 3}, far...)
	for _, way := range coordWays(t, 2) {
		c := behind(t, 2, way)
		for _, id := range ids {
			for _, agent := range agents {
				for _, kind := range kinds {
					if wrong := slices.Contains(far, agent) || slices.Contains(far, kind) || id != 1; wrong {
						c.do(t, act{hears, agent, kind, id})
					}
				}
			}
			if id < 1 || c.m.phase != 0 {
				c.do(t, act{what: begins, id: id})
			}
			c.stands(t, ids)
		}
	}
}

// P17.2: a coordinator has 1 to 16 agents.
func TestCoordNew(t *testing.T) {
	for _, n := range append(to(-3, 40), math.MinInt, math.MinInt+1, -1<<32+1, 1<<31, 1<<32, 1<<32+1, 1<<32+16, math.MaxInt) {
		c, err := barrier.New(n)
		if n < 1 || n > 16 {
			if c != nil || err != api.ErrArg {
				t.Fatalf("New(%d): %v, %v", n, c, err)
			}
			continue
		}
		freshCoord(t, n).stands(t, far)
		if c.Begin(1) != api.OK || len(c.Step()) != n {
			t.Fatalf("of %d: %v", n, c.Step())
		}
	}
}

// P17.2: orders go to those that have not answered, by number, in whatever order the others answer.
func TestCoordOrders(t *testing.T) {
	for n := 1; n <= 16; n++ {
		dice := rand.New(rand.NewSource(int64(n)))
		c := freshCoord(t, n)
		for id := 1; id <= 6; id++ {
			c.do(t, act{what: begins, id: id})
			for c.m.phase != 0 {
				if id%2 == 0 && dice.Intn(3*n) == 0 {
					c.do(t, act{what: aborts})
				}
				for _, agent := range dice.Perm(n) {
					kind := []int{0, frozen, snapped, done, done}[c.m.phase]
					c.do(t, act{hears, agent, kind, id})
					c.do(t, act{hears, agent, kind, id - 1})
					c.stands(t, to(0, 7))
				}
			}
		}
	}
}

// P17.2: 1024 snapshots may have run, committed or aborted; one that runs is none of those that have.
func TestCoordMost(t *testing.T) {
	c := freshCoord(t, 1)
	id := func(i int) int { return 7*i + 1 }
	for i := range most {
		for _, twice := range []int{i / 2, i - 1} {
			if twice >= 0 && twice < i {
				c.do(t, act{what: begins, id: id(twice)})
			}
		}
		c.do(t, act{what: begins, id: id(i)})
		c.do(t, act{what: begins, id: id(i)})
		c.do(t, act{what: begins, id: 5})
		if i%3 == 0 {
			c.do(t, act{hears, 0, refused, id(i)})
		}
		for _, kind := range []int{frozen, snapped, done} {
			c.do(t, act{hears, 0, kind, id(i)})
		}
		c.stands(t, []int{0, id(i), id(i) + 1, id(i / 2)})
	}
	for range 2 {
		for _, next := range []int{5, 1<<32 + 1, math.MaxInt} {
			if err := c.do(t, act{what: begins, id: next}); err != api.ErrMany {
				t.Fatalf("of more than %d: %v", most, err)
			}
		}
		if err := c.do(t, act{what: begins, id: id(most - 1)}); err != api.ErrTwice {
			t.Fatalf("of one that has run: %v", err)
		}
		if err := c.do(t, act{what: begins}); err != api.ErrArg {
			t.Fatalf("of none: %v", err)
		}
		c.Crash()
	}
	c.stands(t, to(-1, 7*most+10))
}

// P17.2, P17.3, P17.4: long ways of up to 16 agents, with snapshots that are far from each other, or like each other in 32 bits.
func TestCoordLong(t *testing.T) {
	ids := append(to(1, 20), far...)
	for seed := range int64(120) {
		dice := rand.New(rand.NewSource(seed))
		n := 1 + dice.Intn(16)
		c := freshCoord(t, n)
		for range 500 {
			a := act{hears, dice.Intn(n+2) - 1, 10 + dice.Intn(6), c.m.id}
			switch dice.Intn(100) {
			case 0:
				a = act{what: aborts}
			case 1:
				a = act{what: crashes}
			case 2:
				a.id = ids[dice.Intn(len(ids))]
			case 3, 4:
				a.kind = far[dice.Intn(len(far))]
			default:
				if a.kind == refused && dice.Intn(20) > 0 {
					a.kind = done
				}
				if c.m.phase == 0 {
					a = act{what: begins, id: ids[dice.Intn(len(ids))]}
				}
			}
			c.do(t, a)
			c.stands(t, ids)
		}
	}
}

// P17.2, R4: orders are the caller's.
func TestCoordMemory(t *testing.T) {
	c := freshCoord(t, 5)
	spoil := func() {
		l := c.Step()
		l = l[:cap(l)]
		for i := range l {
			l[i] = barrier.Order{Agent: -5, Kind: -6, Id: -7}
		}
		c.stands(t, to(0, 3))
	}
	spoil()
	for id := 1; id <= 2; id++ {
		c.do(t, act{what: begins, id: id})
		for _, kind := range []int{frozen, snapped, done} {
			for _, agent := range []int{3, 0, 4, 1, 2} {
				one, other := c.Step(), c.Step()
				one[0].Agent = 99
				_ = append(one[:0:len(one)], barrier.Order{})
				if !slices.Equal(other, c.m.step()) {
					t.Fatalf("two answers are one: %v", other)
				}
				spoil()
				c.do(t, act{hears, agent, kind, id})
				spoil()
			}
		}
	}
}

// R3, R7: coordinators are apart, and those to which the same was done answer the same.
func TestCoordsApart(t *testing.T) {
	dice := rand.New(rand.NewSource(1))
	coords := []*coord{freshCoord(t, 2), freshCoord(t, 2), freshCoord(t, 3)}
	for range 20000 {
		c := coords[dice.Intn(3)]
		a := act{hears, dice.Intn(3), frozen + dice.Intn(4), c.m.id}
		switch dice.Intn(12) {
		case 0, 1, 2:
			a = act{what: begins, id: 1 + dice.Intn(300)}
		case 3:
			a = act{what: crashes + dice.Intn(3)}
		}
		c.do(t, a)
		for _, each := range coords {
			each.stands(t, []int{1 + dice.Intn(300), c.m.id})
		}
	}
}

// P17.4, R1: coordinators that are nil, and ones that New did not give: ErrNil, nothing, 0.
func TestCoordNone(t *testing.T) {
	real := freshCoord(t, 2)
	real.do(t, act{what: begins, id: 1})
	copied := *real.Coord
	for name, c := range map[string]*barrier.Coord{"nil": nil, "not made": {}, "copied": &copied} {
		for range 2 {
			for _, id := range append([]int{0, 1, 2}, far...) {
				if err := c.Begin(id); err != api.ErrNil {
					t.Fatalf("%s: Begin(%d): %v", name, id, err)
				}
				for _, agent := range append([]int{0, 1, 2}, far...) {
					for kind := 10; kind <= 15; kind++ {
						if err := c.Hear(agent, kind, id); err != api.ErrNil {
							t.Fatalf("%s: Hear(%d, %d, %d): %v", name, agent, kind, id, err)
						}
					}
				}
				if got := c.State(id); got != 0 {
					t.Fatalf("%s: State(%d): %d", name, id, got)
				}
			}
			if err := c.Abort(); err != api.ErrNil {
				t.Fatalf("%s: Abort: %v", name, err)
			}
			if phase, id := c.Phase(); phase != 0 || id != 0 || len(c.Step()) != 0 {
				t.Fatalf("%s: %d, %d, %v", name, phase, id, c.Step())
			}
			c.Crash()
		}
	}
	real.stands(t, to(0, 3))
	real.do(t, act{hears, 0, frozen, 1})
	real.stands(t, to(0, 3))
}

// What is kept of a coordinator does not grow with what it hears and is asked.
func TestCoordLean(t *testing.T) {
	c := freshCoord(t, 16)
	c.do(t, act{what: begins, id: 1})
	held := func() uint64 {
		var m runtime.MemStats
		runtime.GC()
		runtime.ReadMemStats(&m)
		return m.HeapAlloc
	}
	start := held()
	for i := range 100000 {
		c.do(t, act{hears, i % 15, frozen, 1})
		c.do(t, act{hears, i % 15, frozen, 2 + i})
		c.do(t, act{what: begins, id: i})
		c.stands(t, []int{i})
	}
	c.stands(t, to(0, 3))
	if grown := int64(held()) - int64(start); grown > 1<<19 {
		t.Fatalf("%d bytes more are held", grown)
	}
	runtime.KeepAlive(c)
}
