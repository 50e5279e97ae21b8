package sess_test

import (
	"math/rand"
	"slices"
	"strconv"
	"testing"

	"jackstay/api"
	"jackstay/net"
)

// way is a session's two ends, what lies between them, and what was sent and came at each in each of its epochs.
type way struct {
	ends [2]*end
	bag  *net.Bag
	sent [2]map[int][]string
	came [2]map[int][]string
}

// between is a way between the nodes 3 and 5.
func between(t *testing.T) *way {
	t.Helper()
	w := &way{ends: [2]*end{fresh(t, 3, 5, 1), fresh(t, 5, 3, 1)}, bag: net.New()}
	for i := range w.ends {
		w.sent[i], w.came[i] = map[int][]string{}, map[int][]string{}
	}
	return w
}

// send sends a load that is unlike any other.
func (w *way) send(t *testing.T, i int) {
	t.Helper()
	e := w.ends[i]
	load := "of " + strconv.Itoa(i) + ", in " + strconv.Itoa(e.m.epoch) + ": " + strconv.Itoa(e.m.sent()+1)
	if e.send(t, load) == api.OK {
		w.sent[i][e.m.epoch] = append(w.sent[i][e.m.epoch], load)
	}
}

// step puts an end's messages into the bag, as far as there is room.
func (w *way) step(t *testing.T, i int) {
	t.Helper()
	for _, m := range w.ends[i].step(t) {
		gram, err := net.Pack(m)
		if err != api.OK {
			t.Fatalf("Pack of %+v: %v", m, err)
		}
		w.bag.Put(gram)
	}
}

// deliver hands a datagram to the end that it is for, if it can be unpacked.
func (w *way) deliver(t *testing.T, at int) {
	t.Helper()
	gram, spoilt, err := w.bag.Take(at)
	if err != api.OK {
		return
	}
	m, err := net.Unpack(gram)
	if spoilt != (err != api.OK) {
		t.Fatalf("spoilt: %v, Unpack: %v", spoilt, err)
	}
	if spoilt {
		return
	}
	for i, e := range w.ends {
		if e.m.node == m.To {
			w.take(t, i, m)
		}
	}
}

// take hands a message to an end, and notes what came.
func (w *way) take(t *testing.T, i int, m api.Msg) {
	t.Helper()
	e := w.ends[i]
	load, came, err := e.recv(t, m)
	if m.Epoch != e.m.epoch && (came || err == api.OK) {
		t.Fatalf("of the epoch %d, in %d, came %q, %v", m.Epoch, e.m.epoch, load, err)
	}
	if came {
		w.came[i][e.m.epoch] = append(w.came[i][e.m.epoch], load)
	}
}

// ordered asks that what came at each end, in each epoch, are the first loads that the other one sent in it.
func (w *way) ordered(t *testing.T) {
	t.Helper()
	for i := range w.ends {
		for epoch, came := range w.came[i] {
			sent := w.sent[1-i][epoch]
			if len(came) > len(sent) || !slices.Equal(came, sent[:len(came)]) {
				t.Fatalf("in %d came %q, and were sent %q", epoch, came, sent)
			}
		}
	}
}

// whole asks that all that was sent in the ends' epoch came, and that nothing is open or owed.
func (w *way) whole(t *testing.T) {
	t.Helper()
	for i, e := range w.ends {
		epoch := e.m.epoch
		if sent := w.sent[1-i][epoch]; !slices.Equal(w.came[i][epoch], sent) || e.Came() != len(sent) {
			t.Fatalf("of %q came %q: %d", sent, w.came[i][epoch], e.Came())
		}
		if e.Open() != 0 || e.Owes() || len(e.step(t)) != 0 {
			t.Fatalf("%d are open, owed: %v", e.Open(), e.Owes())
		}
	}
}

// fair steps each end 10 times, and delivers all of its messages in order, each time: those of one end ahead of the other's step, or those of both behind both. Then all came, and in order.
func (w *way) fair(t *testing.T, both bool) {
	t.Helper()
	for range 10 {
		for i := range w.ends {
			w.step(t, i)
			for !both && w.bag.Size() > 0 {
				w.deliver(t, 0)
			}
		}
		for w.bag.Size() > 0 {
			w.deliver(t, 0)
		}
	}
	w.ordered(t)
	w.whole(t)
}

// P16.5: of each end up to 8 loads, in fair rounds, once more behind them.
func TestAll(t *testing.T) {
	for a := range room + 1 {
		for b := range room + 1 {
			for _, both := range []bool{false, true} {
				w := between(t)
				for range 3 {
					for range a {
						w.send(t, 0)
					}
					for range b {
						w.send(t, 1)
					}
					w.fair(t, both)
				}
			}
		}
	}
}

// P16.4, P16.5: whatever is lost, doubled, mixed up and turned, what comes is in order, each once; and behind fair rounds all came.
func TestOrder(t *testing.T) {
	for seed := range int64(150) {
		dice := rand.New(rand.NewSource(seed))
		w := between(t)
		for range 4 {
			w.wild(t, dice, 150)
			for w.bag.Size() > 0 && dice.Intn(4) > 0 {
				w.deliver(t, dice.Intn(w.bag.Size()))
			}
			w.ordered(t)
		}
		for w.bag.Size() > 0 {
			w.bag.Take(0)
		}
		w.fair(t, seed%2 == 0)
	}
}

// wild does some things to a way, with all that a network may do to what is in it.
func (w *way) wild(t *testing.T, dice *rand.Rand, many int) {
	t.Helper()
	for range many {
		at := dice.Intn(max(1, w.bag.Size()))
		switch dice.Intn(10) {
		case 0, 1, 2:
			w.send(t, dice.Intn(2))
		case 3:
			w.step(t, dice.Intn(2))
		case 4, 5, 6:
			w.deliver(t, at)
		case 7:
			w.bag.Twice(at)
		case 8:
			w.bag.Turn(at, dice.Int(), byte(dice.Intn(256)))
		case 9:
			w.bag.Take(at)
		}
	}
}

// P16.4, P16.6: ends that begin anew, each when it will: of another epoch nothing comes, also not what is late.
func TestEpochs(t *testing.T) {
	for seed := range int64(150) {
		dice := rand.New(rand.NewSource(seed))
		w := between(t)
		for range 12 {
			w.wild(t, dice, 60)
			e := w.ends[dice.Intn(2)]
			e.begin(t, e.m.epoch+dice.Intn(3)-1)
			w.ordered(t)
		}
		epoch := max(w.ends[0].m.epoch, w.ends[1].m.epoch) + 1
		for i, e := range w.ends {
			e.begin(t, epoch)
			w.send(t, i)
		}
		w.wild(t, dice, 60)
		w.fair(t, seed%2 == 0)
	}
}

// P16.4: each order of up to five of the messages of three loads, with whichever are lost and doubled.
func TestOrders(t *testing.T) {
	from := fresh(t, 3, 5, 1)
	for seq := range 3 {
		from.send(t, name(seq+1))
	}
	l := from.step(t)
	var try func(order []int)
	try = func(order []int) {
		w := between(t)
		w.sent[0][1] = []string{name(1), name(2), name(3)}
		for _, at := range order {
			w.take(t, 1, l[at])
			w.ordered(t)
		}
		for at := range 3 {
			if len(order) < 5 {
				try(append(slices.Clip(order), at))
			}
		}
	}
	try(nil)
}

// P16.2, P16.6: a session's messages are none of another one's.
func TestSessions(t *testing.T) {
	for node := range 16 {
		for peer := range 16 {
			if node == peer {
				continue
			}
			e := fresh(t, node, peer, 2)
			w := between(t)
			w.ends[0].begin(t, 2)
			w.send(t, 0)
			for _, m := range w.ends[0].step(t) {
				_, came, err := e.recv(t, m)
				if mine := node == 5 && peer == 3; came != mine || (err == api.OK) != mine {
					t.Fatalf("%+v at %d of %d: %v, %v", m, node, peer, came, err)
				}
			}
		}
	}
}
