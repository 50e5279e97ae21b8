package barrier_test

import (
	"math/rand"
	"slices"
	"testing"

	"jackstay/api"
	"jackstay/barrier"
)

// answer is what an agent answered to an order of a snapshot.
type answer struct{ agent, kind, id int }

// The kinds of moves.
const (
	beginning = iota
	ordering
	hearing
	aborting
	coordCrash
	agentCrash
)

// move is something that is done to a whole.
type move struct{ what, agent, kind, id int }

// whole is a coordinator with its agents, and each order and answer that ever was on its way between them.
type whole struct {
	*barrier.Coord
	agents  []*barrier.Agent
	ids     int
	orders  []barrier.Order
	answers []answer
	// was tells of each agent and snapshot whether it was frozen for it, and took whether it took it while it was.
	was, took map[[2]int]bool
}

// start is a whole of some agents, with room for some snapshots.
func start(t *testing.T, agents, ids int) *whole {
	t.Helper()
	c, err := barrier.New(agents)
	if err != api.OK {
		t.Fatal(err)
	}
	w := &whole{Coord: c, ids: ids, was: map[[2]int]bool{}, took: map[[2]int]bool{}}
	for range agents {
		w.agents = append(w.agents, barrier.NewAgent())
	}
	return w
}

// order hands an order to its agent, and notes what comes of it.
func (w *whole) order(t *testing.T, o barrier.Order) answer {
	t.Helper()
	a := w.agents[o.Agent]
	at := [2]int{o.Agent, o.Id}
	prepared, is := a.Prepared(), a.Committed(o.Id)
	said := answer{o.Agent, a.Order(o.Kind, o.Id), o.Id}
	if a.Frozen() == o.Id {
		w.was[at] = true
	}
	if a.Prepared() == o.Id && prepared != o.Id {
		if a.Frozen() != o.Id {
			t.Fatalf("%+v: %d takes it, and is not frozen for it", o, o.Agent)
		}
		w.took[at] = true
		for i := range w.agents {
			if !w.was[[2]int{i, o.Id}] {
				t.Fatalf("%+v: %d takes it, and %d was never frozen for it", o, o.Agent, i)
			}
		}
	}
	if a.Committed(o.Id) && !is {
		for i := range w.agents {
			if !w.was[[2]int{i, o.Id}] || !w.took[[2]int{i, o.Id}] {
				t.Fatalf("%+v: %d commits it, and %d never took it", o, o.Agent, i)
			}
		}
	}
	return said
}

// do does a move, and puts what is to be ordered now on its way.
func (w *whole) do(t *testing.T, m move) {
	t.Helper()
	switch m.what {
	case beginning:
		w.Begin(m.id)
	case ordering:
		said := w.order(t, barrier.Order{Agent: m.agent, Kind: m.kind, Id: m.id})
		if !slices.Contains(w.answers, said) {
			w.answers = append(w.answers, said)
		}
	case hearing:
		w.Hear(m.agent, m.kind, m.id)
	case aborting:
		w.Abort()
	case coordCrash:
		w.Crash()
	case agentCrash:
		w.agents[m.agent].Crash()
	}
	for _, o := range w.Step() {
		if !slices.Contains(w.orders, o) {
			w.orders = append(w.orders, o)
		}
	}
}

// moves are all that may be done now: each order and answer that ever was on its way may come, also late and once more. With now, only the orders of now come.
func (w *whole) moves(now bool) []move {
	l := []move{{what: aborting}, {what: coordCrash}}
	for id := 1; id <= w.ids; id++ {
		l = append(l, move{what: beginning, id: id})
	}
	for i := range w.agents {
		l = append(l, move{what: agentCrash, agent: i})
	}
	orders := w.orders
	if now {
		orders = w.Step()
	}
	for _, o := range orders {
		l = append(l, move{ordering, o.Agent, o.Kind, o.Id})
	}
	for _, a := range w.answers {
		l = append(l, move{hearing, a.agent, a.kind, a.id})
	}
	return l
}

// atomic asks that, if one agent has committed a snapshot, each has it prepared or committed, and that none that is aborted is committed.
func (w *whole) atomic(t *testing.T) {
	t.Helper()
	for id := 1; id <= w.ids; id++ {
		some, all := false, true
		for _, a := range w.agents {
			some = some || a.Committed(id)
			all = all && (a.Committed(id) || a.Prepared() == id)
		}
		if some && !all {
			t.Fatalf("%d is committed, and not there everywhere", id)
		}
		if state := w.State(id); some && state != 2 || state == 2 && !all {
			t.Fatalf("the state of %d is %d; some agent committed it: %v, and each has it: %v", id, state, some, all)
		}
	}
}

// fair goes on in fair rounds: all orders come, and then all answers, or each answer behind its order. The snapshot that runs comes to its end in three of them.
func (w *whole) fair(t *testing.T, each bool) {
	t.Helper()
	_, id := w.Phase()
	for range 3 {
		var said []answer
		for _, o := range w.Step() {
			said = append(said, w.order(t, o))
			if each {
				w.hear(t, said[len(said)-1])
			}
		}
		for _, a := range said {
			if !each {
				w.hear(t, a)
			}
		}
		w.atomic(t)
	}
	if phase, runs := w.Phase(); phase != 0 || runs != 0 || id != 0 && w.State(id) < 2 {
		t.Fatalf("%d runs in the phase %d behind fair rounds; the state of %d is %d", runs, phase, id, w.State(id))
	}
}

// hear has an answer heard, if its snapshot runs.
func (w *whole) hear(t *testing.T, a answer) {
	t.Helper()
	_, id := w.Phase()
	err := w.Hear(a.agent, a.kind, a.id)
	if id == a.id && err != api.OK || id != a.id && err != api.ErrState {
		t.Fatalf("Hear(%+v), while %d runs: %v", a, id, err)
	}
}

// over asks that all agents have committed a snapshot, or none has it, and that none is frozen for it.
func (w *whole) over(t *testing.T, id int) {
	t.Helper()
	for i, a := range w.agents {
		if a.Committed(id) != (w.State(id) == 2) || a.Prepared() == id || a.Frozen() == id {
			t.Fatalf("the state of %d is %d; %d is frozen for %d, has %d prepared, and committed it: %v", id, w.State(id), i, a.Frozen(), a.Prepared(), a.Committed(id))
		}
	}
}

// key is what tells a whole from others.
func (w *whole) key() string {
	phase, id := w.Phase()
	key := []byte{byte(phase), byte(id)}
	for _, o := range w.Step() {
		key = append(key, byte(o.Agent))
	}
	key = append(key, 255)
	for id := 1; id <= w.ids; id++ {
		key = append(key, byte(w.State(id)))
	}
	for _, a := range w.agents {
		key = append(key, byte(a.Frozen()), byte(a.Prepared()))
		for id := 1; id <= w.ids; id++ {
			if a.Committed(id) {
				key = append(key, byte(id))
			}
		}
		key = append(key, 255)
	}
	sent := make([]byte, 8*len(w.agents)*w.ids)
	for _, o := range w.orders {
		sent[(o.Id-1)*8*len(w.agents)+o.Agent*8+o.Kind-1] = 1
	}
	for _, a := range w.answers {
		sent[(a.id-1)*8*len(w.agents)+a.agent*8+a.kind-frozen+4] = 1
	}
	return string(append(key, sent...))
}

// led is a whole to which some moves led.
func led(t *testing.T, agents, ids int, way []move) *whole {
	t.Helper()
	w := start(t, agents, ids)
	for _, m := range way {
		w.do(t, m)
	}
	return w
}

// wholes goes over all states to which moves lead: of each it tells the way. With now, no order comes when its phase is over.
func wholes(t *testing.T, agents, ids int, now bool, tell func(way []move)) {
	t.Helper()
	ways := [][]move{nil}
	seen := map[string]bool{start(t, agents, ids).key(): true}
	for i := 0; i < len(ways); i++ {
		tell(ways[i])
		for _, m := range led(t, agents, ids, ways[i]).moves(now) {
			w := led(t, agents, ids, ways[i])
			w.do(t, m)
			w.atomic(t)
			if key := w.key(); !seen[key] {
				seen[key] = true
				ways = append(ways, append(slices.Clip(ways[i]), m))
			}
		}
	}
}

// P17.5, P17.6, P17.7: all that can be done to a coordinator with its agents, also with orders and answers that are lost, come late or come once more: of each state fair rounds come to an end.
func TestAllOrNone(t *testing.T) {
	for _, of := range [][2]int{{1, 1}, {1, 2}, {2, 1}} {
		wholes(t, of[0], of[1], false, func(way []move) {
			for _, each := range []bool{false, true} {
				led(t, of[0], of[1], way).fair(t, each)
			}
		})
	}
}

// P17.6: where no order comes when its phase is over, but whatever else is lost, late and doubled, and whoever crashes: of each state, behind fair rounds, each snapshot that has run is committed by all agents, or none has it, and none is frozen for it.
func TestEnd(t *testing.T) {
	for _, of := range [][2]int{{1, 2}, {2, 1}, {2, 2}, {3, 1}} {
		wholes(t, of[0], of[1], true, func(way []move) {
			for _, each := range []bool{false, true} {
				w := led(t, of[0], of[1], way)
				w.fair(t, each)
				for id := 1; id <= w.ids; id++ {
					if w.State(id) != 0 {
						w.over(t, id)
					}
				}
			}
		})
	}
}

// P17.5, P17.6, P17.7: long ways of up to 16 agents; some with orders that come late, and some without.
func TestWild(t *testing.T) {
	var come [4]int
	for seed := range int64(150) {
		dice := rand.New(rand.NewSource(seed))
		late := seed%2 == 0
		w := start(t, 1+dice.Intn(16), 1+dice.Intn(12))
		for range 6 {
			w.wild(t, dice, 150, late)
			w.fair(t, dice.Intn(2) == 0)
			for id := 1; id <= w.ids && !late; id++ {
				if w.State(id) != 0 {
					w.over(t, id)
				}
			}
		}
		for id := 1; id <= w.ids; id++ {
			come[w.State(id)]++
		}
	}
	if come[2] < 50 || come[3] < 50 {
		t.Fatalf("the states are %v", come)
	}
}

// wild does some moves, mostly such as lead on.
func (w *whole) wild(t *testing.T, dice *rand.Rand, many int, late bool) {
	t.Helper()
	for range many {
		all := w.moves(!late)
		m := all[dice.Intn(len(all))]
		if orders := w.Step(); dice.Intn(3) > 0 && len(orders) > 0 {
			o := orders[dice.Intn(len(orders))]
			said := w.order(t, o)
			w.answers = append(w.answers, said)
			m = move{hearing, said.agent, said.kind, said.id}
		}
		if m.what == aborting && dice.Intn(4) > 0 {
			continue
		}
		w.do(t, m)
		w.atomic(t)
	}
}

// P17.6: with nothing lost, and nobody who crashes or aborts, all agents commit each snapshot, in three rounds.
func TestRounds(t *testing.T) {
	for agents := 1; agents <= 16; agents++ {
		for _, each := range []bool{false, true} {
			w := start(t, agents, 5)
			for _, id := range []int{3, 1, 5, 2, 4} {
				if err := w.Begin(id); err != api.OK || w.State(id) != 1 {
					t.Fatalf("Begin(%d): %v", id, err)
				}
				w.fair(t, each)
				if w.State(id) != 2 {
					t.Fatalf("the state of %d is %d", id, w.State(id))
				}
				w.over(t, id)
			}
		}
	}
}

// P17.5, P17.6: one agent, or the coordinator, crashes ahead of any one order, or of any one answer, of a snapshot that was fair up to there.
func TestCrashOnce(t *testing.T) {
	for agents := 1; agents <= 4; agents++ {
		for who := -1; who < agents; who++ {
			for at := range 6 * agents {
				w := start(t, agents, 2)
				w.Begin(1)
				w.crashAt(t, who, at)
				decided := w.State(1) == 2
				w.fair(t, true)
				w.over(t, 1)
				if got := w.State(1); decided && got != 2 || who == -1 && !decided && got != 3 {
					t.Fatalf("%d crashes at %d of %d agents: %d", who, at, agents, got)
				}
				w.Begin(2)
				w.fair(t, false)
				w.over(t, 2)
				if w.State(2) != 2 {
					t.Fatalf("behind the crash of %d at %d: %d", who, at, w.State(2))
				}
			}
		}
	}
}

// crashAt goes on with each order and its answer, up to a place, and has one crash there (-1: the coordinator).
func (w *whole) crashAt(t *testing.T, who, at int) {
	t.Helper()
	var said []answer
	for n := range at + 1 {
		if n == at && who >= 0 {
			w.agents[who].Crash()
		}
		if n == at && who < 0 {
			w.Crash()
		}
		if n == at {
			break
		}
		if len(said) > 0 {
			w.hear(t, said[0])
			said = nil
			continue
		}
		said = append(said, w.order(t, w.Step()[0]))
	}
	for _, a := range said {
		w.hear(t, a)
	}
}

// Example 1 of the chapter, and example 8 of the whole.
func TestExample(t *testing.T) {
	a := barrier.NewAgent()
	c, err := barrier.New(1)
	if err != api.OK || c.Begin(1) != api.OK {
		t.Fatal(err)
	}
	for _, r := range []struct{ order, answer int }{{freeze, frozen}, {snap, snapped}, {commit, done}} {
		if got := c.Step(); !slices.Equal(got, []barrier.Order{{Agent: 0, Kind: r.order, Id: 1}}) {
			t.Fatalf("Step: %v", got)
		}
		if got := a.Order(r.order, 1); got != r.answer {
			t.Fatalf("Order(%d, 1): %d", r.order, got)
		}
		if err := c.Hear(0, r.answer, 1); err != api.OK {
			t.Fatal(err)
		}
	}
	if phase, id := c.Phase(); c.State(1) != 2 || phase != 0 || id != 0 || !a.Committed(1) {
		t.Fatalf("State(1): %d, Phase: %d, %d", c.State(1), phase, id)
	}
}
