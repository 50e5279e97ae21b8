package sess_test

import (
	"math"
	"math/rand"
	"runtime"
	"slices"
	"strconv"
	"strings"
	"testing"

	"jackstay/api"
	"jackstay/sess"
)

// newest is the last epoch, longest how many bytes a load has at most, and room how many loads may be open.
const (
	newest  = 1 << 31
	longest = 1200
	room    = 8
)

// far are numbers that nothing has: neither a node, nor a kind, nor an epoch, and no load that was sent.
var far = []int{math.MinInt, math.MinInt + 1, -1 << 32, -1 << 31, -2, -1, newest + 1, 1<<32 + 1, 1<<32 + 2, math.MaxInt - 1, math.MaxInt}

// model is what an end should be. No list of one is written into, so that copies of a model go on apart.
type model struct {
	node, peer, epoch int
	acked             int
	open              []string
	came              int
	owes              bool
}

// sent is how many loads were sent.
func (m *model) sent() int {
	return m.acked + len(m.open)
}

// step is what Step should answer.
func (m *model) step() []api.Msg {
	var l []api.Msg
	for i, load := range m.open {
		l = append(l, api.Msg{From: m.node, To: m.peer, Kind: 1, Epoch: m.epoch, Seq: m.acked + 1 + i, Ack: m.came, Load: []byte(load)})
	}
	if len(m.open) == 0 && m.owes {
		l = append(l, api.Msg{From: m.node, To: m.peer, Kind: 2, Epoch: m.epoch, Ack: m.came})
	}
	m.owes = false
	return l
}

// refuse is the error that Recv should answer.
func (m *model) refuse(in api.Msg) api.Errno {
	if in.From != m.peer || in.To != m.node {
		return api.ErrArg
	}
	if in.Kind != 1 && in.Kind != 2 {
		return api.ErrArg
	}
	if in.Epoch < m.epoch {
		return api.ErrOrder
	}
	if in.Epoch > m.epoch {
		return api.ErrState
	}
	if in.Ack < 0 || in.Ack > m.sent() {
		return api.ErrForm
	}
	if in.Kind == 1 && in.Seq < 1 {
		return api.ErrForm
	}
	if in.Kind == 2 && (in.Seq != 0 || len(in.Load) > 0) {
		return api.ErrForm
	}
	if len(in.Load) > longest {
		return api.ErrForm
	}
	return api.OK
}

// recv is what Recv should answer.
func (m *model) recv(in api.Msg) (string, bool, api.Errno) {
	if err := m.refuse(in); err != api.OK {
		return "", false, err
	}
	for m.acked < in.Ack {
		m.open = m.open[1:]
		m.acked++
	}
	if in.Kind == 2 {
		return "", false, api.OK
	}
	m.owes = true
	if in.Seq == m.came+1 {
		m.came++
		return string(in.Load), true, api.OK
	}
	return "", false, api.OK
}

// end is an end, and what it should be.
type end struct {
	*sess.End
	m model
}

func fresh(t *testing.T, node, peer, epoch int) *end {
	t.Helper()
	got, err := sess.New(node, peer, epoch)
	if got == nil || err != api.OK {
		t.Fatalf("New(%d, %d, %d): %v, %v", node, peer, epoch, got, err)
	}
	e := &end{got, model{node: node, peer: peer, epoch: epoch}}
	e.stands(t)
	return e
}

func (e *end) stands(t *testing.T) {
	t.Helper()
	epoch, open, came, owes := e.Epoch(), e.Open(), e.Came(), e.Owes()
	if epoch != e.m.epoch || open != len(e.m.open) || came != e.m.came || owes != e.m.owes {
		t.Fatalf("Epoch, Open, Came, Owes: %d, %d, %d, %v: want %+v", epoch, open, came, owes, e.m)
	}
}

// send sends a load that has room behind it, and writes over it then.
func (e *end) send(t *testing.T, load string) api.Errno {
	t.Helper()
	want := api.OK
	switch {
	case len(load) > longest:
		want = api.ErrArg
	case len(e.m.open) == room:
		want = api.ErrWait
	default:
		e.m.open = append(slices.Clip(e.m.open), load)
	}
	b := roomy(load)
	if err := e.Send(b); err != want {
		t.Fatalf("Send of %d bytes: %v, want %v, of %+v", len(load), err, want, e.m)
	}
	stays(t, b, load)
	fill(b, 0xA5)
	e.stands(t)
	return want
}

// step steps, writes over what is answered, and answers it once more.
func (e *end) step(t *testing.T) []api.Msg {
	t.Helper()
	want := e.m.step()
	got := e.Step()
	if !slices.EqualFunc(got, want, same) {
		t.Fatalf("Step: %+v, want %+v", got, want)
	}
	for i := range got {
		fill(got[i].Load, 0x5A)
		if !slices.EqualFunc(got[i+1:], want[i+1:], same) {
			t.Fatalf("two messages of a Step share their loads' memory: %+v", got)
		}
		got[i] = api.Msg{From: -9, Seq: -9}
	}
	e.stands(t)
	return want
}

// recv hands in a message whose load has room behind it, and writes over it, and over what is answered, then.
func (e *end) recv(t *testing.T, in api.Msg) (string, bool, api.Errno) {
	t.Helper()
	was := e.m
	load, came, want := e.m.recv(in)
	handed := in
	handed.Load = roomy(string(in.Load))
	got, ok, err := e.Recv(handed)
	if string(got) != load || ok != came || err != want {
		t.Fatalf("Recv of %+v: %q, %v, %v: want %q, %v, %v, of %+v", in, got, ok, err, load, came, want, was)
	}
	stays(t, handed.Load, string(in.Load))
	fill(got, 0x5A)
	stays(t, handed.Load, string(in.Load))
	fill(handed.Load, 0xA5)
	if strings.Trim(string(got), "\x5A") != "" {
		t.Fatalf("Recv answered what it was handed")
	}
	e.stands(t)
	return load, came, want
}

// refuses asks that a message is refused, without what recv asks of memory: so of very many.
func (e *end) refuses(t *testing.T, in api.Msg) {
	t.Helper()
	want := e.m.refuse(in)
	if got, came, err := e.Recv(in); len(got) != 0 || came || err != want || want == api.OK {
		t.Fatalf("Recv of %+v: %q, %v, %v: want %v, of %+v", in, got, came, err, want, e.m)
	}
	e.stands(t)
}

func (e *end) begin(t *testing.T, epoch int) {
	t.Helper()
	want := api.OK
	if epoch <= e.m.epoch || epoch > newest {
		want = api.ErrArg
	} else {
		e.m = model{node: e.m.node, peer: e.m.peer, epoch: epoch}
	}
	if err := e.Begin(epoch); err != want {
		t.Fatalf("Begin(%d): %v, want %v, of %+v", epoch, err, want, e.m)
	}
	e.stands(t)
}

// ends asks for all that an end still does: what it sends, whether it owes, how many came, and how many it takes up.
func (e *end) ends(t *testing.T) {
	t.Helper()
	e.step(t)
	e.step(t)
	e.recv(t, e.load(e.m.came, 0))
	e.recv(t, e.load(e.m.came+1, 0))
	for e.send(t, name(e.m.sent()+1)) == api.OK {
	}
	e.step(t)
	e.recv(t, e.ack(e.m.sent()+1))
	e.recv(t, e.ack(e.m.sent()))
	e.step(t)
}

// load is a message of the peer with its load of that number.
func (e *end) load(seq, ack int) api.Msg {
	return api.Msg{From: e.m.peer, To: e.m.node, Kind: 1, Epoch: e.m.epoch, Seq: seq, Ack: ack, Load: []byte(name(seq))}
}

// ack is a message of the peer that acks alone.
func (e *end) ack(ack int) api.Msg {
	return api.Msg{From: e.m.peer, To: e.m.node, Kind: 2, Epoch: e.m.epoch, Ack: ack}
}

// name is a load that tells its number.
func name(seq int) string {
	return "load " + strconv.Itoa(seq)
}

// same tells whether two messages are the same, in every field.
func same(a, b api.Msg) bool {
	return a.From == b.From && a.To == b.To && a.Kind == b.Kind && a.Epoch == b.Epoch &&
		a.Seq == b.Seq && a.Ack == b.Ack && string(a.Load) == string(b.Load)
}

// roomy are a load's bytes, with room behind them.
func roomy(load string) []byte {
	return append([]byte(load), "99999999"...)[:len(load)]
}

// stays asks that bytes with room behind them are as they were.
func stays(t *testing.T, b []byte, was string) {
	t.Helper()
	if string(b) != was || string(b[len(b):][:8]) != "99999999" {
		t.Fatalf("what was handed in was turned: %q, was %q", b[:len(b)+8], was)
	}
}

// fill writes over bytes, also behind their end.
func fill(b []byte, with byte) {
	b = b[:cap(b)]
	for i := range b {
		b[i] = with
	}
}

// built is an end of node 3 and peer 5 that has come to a state.
func built(t *testing.T, epoch, acked, open, came int, owes bool) *end {
	t.Helper()
	e := fresh(t, 3, 5, epoch)
	for e.m.acked < acked {
		e.send(t, name(e.m.sent()+1))
		e.recv(t, e.ack(e.m.sent()))
	}
	for e.m.came < came {
		e.recv(t, e.load(e.m.came+1, e.m.acked))
	}
	if came > 0 && !owes {
		e.step(t)
	}
	if came == 0 && owes {
		e.recv(t, e.load(2, 0))
	}
	for len(e.m.open) < open {
		e.send(t, name(e.m.sent()+1))
	}
	if e.m.acked != acked || len(e.m.open) != open || e.m.came != came || e.m.owes != owes {
		t.Fatalf("the test's own state: %+v", e.m)
	}
	return e
}

// The chapter's example.
func TestExample(t *testing.T) {
	a, err := sess.New(0, 1, 1)
	if err != api.OK {
		t.Fatal(err)
	}
	b, err := sess.New(1, 0, 1)
	if err != api.OK {
		t.Fatal(err)
	}
	if err := a.Send([]byte("a")); err != api.OK || a.Open() != 1 {
		t.Fatalf("Send: %v, and %d are open", err, a.Open())
	}
	l := a.Step()
	if len(l) != 1 || !same(l[0], api.Msg{From: 0, To: 1, Kind: 1, Epoch: 1, Seq: 1, Load: []byte("a")}) {
		t.Fatalf("Step: %+v", l)
	}
	if load, came, err := b.Recv(l[0]); string(load) != "a" || !came || err != api.OK || b.Came() != 1 || !b.Owes() {
		t.Fatalf("Recv: %q, %v, %v", load, came, err)
	}
	l = b.Step()
	if len(l) != 1 || !same(l[0], api.Msg{From: 1, To: 0, Kind: 2, Epoch: 1, Ack: 1}) || b.Owes() {
		t.Fatalf("Step: %+v", l)
	}
	if load, came, err := a.Recv(l[0]); len(load) != 0 || came || err != api.OK || a.Open() != 0 || a.Came() != 0 || a.Owes() {
		t.Fatalf("Recv: %q, %v, %v", load, came, err)
	}
}

// P16.1: each two nodes that may be, and those that may not.
func TestNewNodes(t *testing.T) {
	nodes := slices.Clone(far)
	for node := -3; node < 20; node++ {
		nodes = append(nodes, node)
	}
	for _, node := range nodes {
		for _, peer := range nodes {
			if node >= 0 && node <= 15 && peer >= 0 && peer <= 15 && node != peer {
				fresh(t, node, peer, 7).ends(t)
			} else if e, err := sess.New(node, peer, 7); e != nil || err != api.ErrArg {
				t.Fatalf("New(%d, %d, 7): %v, %v", node, peer, e, err)
			}
		}
	}
}

// P16.1: each epoch is from 1 to 2^31.
func TestNewEpochs(t *testing.T) {
	for _, epoch := range []int{1, 2, 3, 255, 1 << 16, newest/2 - 1, newest / 2, newest - 1, newest} {
		fresh(t, 0, 15, epoch).ends(t)
	}
	for _, epoch := range append(slices.Clone(far), 0) {
		if e, err := sess.New(0, 15, epoch); e != nil || err != api.ErrArg {
			t.Fatalf("New(0, 15, %d): %v, %v", epoch, e, err)
		}
		if e, err := sess.New(4, 4, epoch); e != nil || err != api.ErrArg {
			t.Fatalf("New(4, 4, %d): %v, %v", epoch, e, err)
		}
	}
}

// P16.1: loads of all lengths that may be, also none, and those that are too long.
func TestSendLengths(t *testing.T) {
	for n := range longest + 20 {
		e := fresh(t, 1, 2, 1)
		e.send(t, strings.Repeat("x", n))
		e.send(t, "behind")
		e.ends(t)
	}
	for _, n := range []int{1 << 11, 1 << 16, 1<<16 + 1, 1 << 20} {
		e := fresh(t, 1, 2, 1)
		e.send(t, strings.Repeat("x", n))
		e.ends(t)
	}
}

// P16.1, R6: a load of no bytes is one, nil or not.
func TestSendNone(t *testing.T) {
	e := fresh(t, 1, 2, 1)
	for _, load := range [][]byte{nil, {}, []byte("a")[:0]} {
		e.m.open = append(slices.Clip(e.m.open), "")
		if err := e.Send(load); err != api.OK {
			t.Fatal(err)
		}
		e.stands(t)
	}
	for _, m := range e.step(t) {
		if m.Kind != 1 || m.Seq == 0 {
			t.Fatalf("no load: %+v", m)
		}
	}
	for seq, load := range [][]byte{nil, {}, []byte("a")[:0]} {
		m := e.load(seq+1, 0)
		m.Load = load
		if got, came, err := e.Recv(m); len(got) != 0 || !came || err != api.OK {
			t.Fatalf("Recv: %q, %v, %v", got, came, err)
		}
		_, _, _ = e.m.recv(m)
		e.stands(t)
	}
	for _, load := range [][]byte{nil, {}, []byte("a")[:0]} {
		m := e.ack(1)
		m.Load = load
		if got, came, err := e.Recv(m); len(got) != 0 || came || err != api.OK {
			t.Fatalf("Recv: %q, %v, %v", got, came, err)
		}
		_, _, _ = e.m.recv(m)
		e.stands(t)
	}
	e.ends(t)
}

// P16.1, R1, R7: with 8 open the answer is ErrWait, and ErrArg ahead of it; each that is acked gives room for one.
func TestSendFull(t *testing.T) {
	for open := range room + 1 {
		for acks := range open + 1 {
			e := built(t, 1, 3, open, 2, false)
			e.send(t, strings.Repeat("x", longest+1))
			if open == room && e.send(t, "a") != api.ErrWait {
				t.Fatal("no ErrWait")
			}
			e.recv(t, e.ack(3+acks))
			sent := 0
			for e.send(t, name(e.m.sent()+1)) == api.OK {
				sent++
			}
			if sent != room-open+acks {
				t.Fatalf("%d open, %d acked: room for %d", open, acks, sent)
			}
			e.send(t, strings.Repeat("x", longest+1))
			e.ends(t)
		}
	}
}

// P16.1: each state's messages: all that are open, in order, each time; else an ack, once.
func TestStep(t *testing.T) {
	for _, acked := range []int{0, 1, 2, 9} {
		for open := range room + 1 {
			for came := range 4 {
				for _, owes := range []bool{false, true} {
					e := built(t, 2, acked, open, came, owes)
					want := open
					if open == 0 && owes {
						want = 1
					}
					if got := len(e.step(t)); got != want {
						t.Fatalf("%d messages, want %d", got, want)
					}
					if got := len(e.step(t)); got != open {
						t.Fatalf("%d messages, want %d", got, open)
					}
					e.ends(t)
				}
			}
		}
	}
}

// P16.1: a Step of loads tells how many came, too, so that no ack alone is owed behind it.
func TestStepPays(t *testing.T) {
	e := built(t, 1, 0, 1, 3, true)
	if l := e.step(t); len(l) != 1 || l[0].Kind != 1 || l[0].Ack != 3 {
		t.Fatalf("Step: %+v", l)
	}
	e.recv(t, e.ack(1))
	if l := e.step(t); len(l) != 0 {
		t.Fatalf("Step: %+v", l)
	}
	e.ends(t)
}

// around are the numbers round those that a message may have in a state.
func around(n ...int) []int {
	l := []int{math.MinInt, -1 << 32, -1, 0, 1, newest, 1 << 32, math.MaxInt}
	for _, i := range n {
		l = append(l, i-1, i, i+1)
	}
	slices.Sort(l)
	return slices.Compact(l)
}

// P16.2, R1, R7: each state, and each message of its epoch, with numbers round those that may be.
func TestRecvStates(t *testing.T) {
	for _, acked := range []int{0, 1, 5} {
		for open := range room + 1 {
			for _, came := range []int{0, 1, 2, 9} {
				for _, owes := range []bool{false, true} {
					e := built(t, 2, acked, open, came, owes)
					for _, ack := range around(acked, acked+open, acked+open/2) {
						for _, seq := range around(came, came+2) {
							for _, m := range []api.Msg{e.load(seq, ack), {From: 5, To: 3, Kind: 2, Epoch: 2, Seq: seq, Ack: ack}} {
								if _, _, err := e.recv(t, m); err == api.OK {
									e.ends(t)
									e = built(t, 2, acked, open, came, owes)
								}
							}
						}
					}
					e.ends(t)
				}
			}
		}
	}
}

// P16.2, R1, R7: each field of a message is wrong or right, whatever the others are: the first that applies is answered.
func TestRecvFields(t *testing.T) {
	loads := []string{"", "x", strings.Repeat("y", longest), strings.Repeat("z", longest+1)}
	e := built(t, 7, 2, 3, 4, false)
	for _, from := range []int{-1, 0, 3, 4, 5, 6, 15, 21, 5 + 1<<32} {
		for _, to := range []int{-1, 0, 2, 3, 4, 5, 19, 3 + 1<<32} {
			for _, kind := range []int{math.MinInt, -1, 0, 1, 2, 3, 4, 1<<32 + 1, math.MaxInt} {
				for _, epoch := range []int{math.MinInt, -7, 0, 6, 7, 8, 7 + 1<<32, math.MaxInt} {
					for _, seq := range []int{-1, 0, 1, 5, 6} {
						for _, ack := range []int{-1, 0, 5, 6} {
							for _, load := range loads {
								m := api.Msg{From: from, To: to, Kind: kind, Epoch: epoch, Seq: seq, Ack: ack, Load: []byte(load)}
								if e.m.refuse(m) != api.OK {
									e.refuses(t, m)
									continue
								}
								e.recv(t, m)
								e = built(t, 7, 2, 3, 4, false)
							}
						}
					}
				}
			}
		}
	}
	e.ends(t)
}

// P16.2: one message of each error, written out.
func TestRecvKnown(t *testing.T) {
	right := api.Msg{From: 5, To: 3, Kind: 1, Epoch: 7, Seq: 5, Ack: 3, Load: []byte("a")}
	ack := api.Msg{From: 5, To: 3, Kind: 2, Epoch: 7, Ack: 3}
	for i, c := range []struct {
		m    api.Msg
		turn func(m *api.Msg)
		want api.Errno
	}{
		{right, func(m *api.Msg) {}, api.OK},
		{ack, func(m *api.Msg) {}, api.OK},
		{right, func(m *api.Msg) { m.From = 4 }, api.ErrArg},
		{right, func(m *api.Msg) { m.To = 4 }, api.ErrArg},
		{right, func(m *api.Msg) { m.From, m.To = 3, 5 }, api.ErrArg},
		{ack, func(m *api.Msg) { m.From, m.To = 3, 5 }, api.ErrArg},
		{right, func(m *api.Msg) { m.Kind = 0 }, api.ErrArg},
		{right, func(m *api.Msg) { m.Kind = 3 }, api.ErrArg},
		{right, func(m *api.Msg) { m.Kind, m.Epoch = 3, 6 }, api.ErrArg},
		{right, func(m *api.Msg) { m.From, m.Epoch = 4, 8 }, api.ErrArg},
		{right, func(m *api.Msg) { m.Epoch = 6 }, api.ErrOrder},
		{ack, func(m *api.Msg) { m.Epoch = 6 }, api.ErrOrder},
		{right, func(m *api.Msg) { m.Epoch, m.Ack = 6, -1 }, api.ErrOrder},
		{right, func(m *api.Msg) { m.Epoch = 8 }, api.ErrState},
		{ack, func(m *api.Msg) { m.Epoch = 8 }, api.ErrState},
		{right, func(m *api.Msg) { m.Epoch, m.Seq = 8, 0 }, api.ErrState},
		{right, func(m *api.Msg) { m.Ack = -1 }, api.ErrForm},
		{ack, func(m *api.Msg) { m.Ack = -1 }, api.ErrForm},
		{right, func(m *api.Msg) { m.Ack = 6 }, api.ErrForm},
		{ack, func(m *api.Msg) { m.Ack = 6 }, api.ErrForm},
		{right, func(m *api.Msg) { m.Ack = 5 }, api.OK},
		{right, func(m *api.Msg) { m.Ack = 0 }, api.OK},
		{right, func(m *api.Msg) { m.Seq = 0 }, api.ErrForm},
		{right, func(m *api.Msg) { m.Seq = -5 }, api.ErrForm},
		{ack, func(m *api.Msg) { m.Seq = 1 }, api.ErrForm},
		{ack, func(m *api.Msg) { m.Seq = -1 }, api.ErrForm},
		{ack, func(m *api.Msg) { m.Seq = 5 }, api.ErrForm},
		{ack, func(m *api.Msg) { m.Load = []byte{0} }, api.ErrForm},
		{right, func(m *api.Msg) { m.Load = make([]byte, longest) }, api.OK},
		{right, func(m *api.Msg) { m.Load = make([]byte, longest+1) }, api.ErrForm},
		{right, func(m *api.Msg) { m.Seq, m.Load = 1, make([]byte, longest+1) }, api.ErrForm},
	} {
		e := built(t, 7, 2, 3, 4, false)
		c.turn(&c.m)
		if _, _, err := e.recv(t, c.m); err != c.want {
			t.Fatalf("%d: Recv of %+v: %v, want %v", i, c.m, err, c.want)
		}
		e.ends(t)
	}
}

// P16.2: a load that came already, or comes too early, does not come, and owes an ack all the same; what it acks is acked.
func TestRecvAgain(t *testing.T) {
	for seq := 1; seq < 9; seq++ {
		e := built(t, 1, 0, 3, 4, false)
		load, came, err := e.recv(t, e.load(seq, 2))
		if came != (seq == 5) || (load != "") != came || err != api.OK || e.Open() != 1 || !e.Owes() {
			t.Fatalf("Recv of the load %d behind 4: %q, %v, %v", seq, load, came, err)
		}
		e.ends(t)
	}
}

// P16.2: an ack that is late acks nothing more, and takes nothing back.
func TestRecvLate(t *testing.T) {
	e := built(t, 1, 0, 8, 0, false)
	for _, ack := range []int{0, 3, 1, 0, 3, 2, 4, 3, 8, 5, 0, 8} {
		e.recv(t, e.ack(ack))
		e.recv(t, e.load(9, ack))
	}
	e.ends(t)
}

// P16.3: each epoch above the end's, up to 2^31, and all is as at first then; with another one nothing is turned.
func TestBegin(t *testing.T) {
	for _, epoch := range []int{1, 2, 7, newest - 1, newest} {
		for _, next := range append(around(epoch, newest), far...) {
			for _, open := range []int{0, 1, room} {
				for _, came := range []int{0, 2} {
					e := built(t, epoch, open, open, came, came > 0)
					e.begin(t, next)
					e.recv(t, api.Msg{From: 5, To: 3, Kind: 1, Epoch: epoch, Seq: came + 1, Ack: open, Load: []byte("late")})
					e.begin(t, next)
					e.ends(t)
					e.begin(t, newest)
					e.ends(t)
				}
			}
		}
	}
}

// P16.3: behind a Begin the numbers begin anew, and an ack of what was sent ahead is none.
func TestBeginAnew(t *testing.T) {
	e := built(t, 1, 5, 2, 6, true)
	e.begin(t, 4)
	if e.Epoch() != 4 || e.Open() != 0 || e.Came() != 0 || e.Owes() || len(e.Step()) != 0 {
		t.Fatal("not as at first")
	}
	if _, _, err := e.recv(t, e.ack(1)); err != api.ErrForm {
		t.Fatal(err)
	}
	e.send(t, "anew")
	if l := e.step(t); len(l) != 1 || l[0].Seq != 1 || l[0].Ack != 0 || l[0].Epoch != 4 {
		t.Fatalf("Step: %+v", l)
	}
	if load, came, _ := e.recv(t, e.load(1, 1)); load != name(1) || !came {
		t.Fatal("the first load did not come")
	}
	e.ends(t)
}

// P16.3, R5: a nil end, and one that New did not give, answer ErrNil, nothing, 0.
func TestNil(t *testing.T) {
	_, wrong := sess.New(1, 1, 1)
	if wrong != api.ErrArg {
		t.Fatal(wrong)
	}
	for i, e := range []*sess.End{nil, {}, new(sess.End)} {
		for range 2 {
			for _, load := range []string{"", "a", strings.Repeat("x", longest+1)} {
				if err := e.Send([]byte(load)); err != api.ErrNil {
					t.Fatalf("%d: Send: %v", i, err)
				}
			}
			for _, m := range []api.Msg{{}, {From: 1, To: 0, Kind: 1, Seq: 1}, {Kind: 2}, {Kind: 1, Seq: 1, Load: []byte("a")}, {Kind: 1, Epoch: 1, Seq: 1}} {
				if load, came, err := e.Recv(m); len(load) != 0 || came || err != api.ErrNil {
					t.Fatalf("%d: Recv of %+v: %q, %v, %v", i, m, load, came, err)
				}
			}
			for _, epoch := range []int{math.MinInt, 0, 1, newest, newest + 1} {
				if err := e.Begin(epoch); err != api.ErrNil {
					t.Fatalf("%d: Begin(%d): %v", i, epoch, err)
				}
			}
			if l := e.Step(); len(l) != 0 || e.Epoch() != 0 || e.Open() != 0 || e.Came() != 0 || e.Owes() {
				t.Fatalf("%d: %+v, %d, %d, %d, %v", i, l, e.Epoch(), e.Open(), e.Came(), e.Owes())
			}
		}
	}
}

// R3: ends have nothing of one another.
func TestApart(t *testing.T) {
	a, b := fresh(t, 1, 2, 1), fresh(t, 1, 2, 1)
	for i := range 5 {
		a.send(t, name(i))
		b.send(t, "other "+strconv.Itoa(i))
	}
	a.recv(t, a.load(1, 2))
	b.recv(t, b.ack(4))
	a.send(t, "a")
	b.send(t, "b")
	b.begin(t, 2)
	a.ends(t)
	b.ends(t)
}

// R3: a copy of an end goes on apart from it, whichever is asked first.
func TestCopies(t *testing.T) {
	for acked := range 4 {
		for open := range room {
			for acks := range open + 1 {
				for _, first := range []bool{false, true} {
					e := built(t, 1, acked, open, 1, true)
					e.recv(t, e.ack(acked+acks))
					twin := *e.End
					other := &end{&twin, e.m}
					if first {
						e, other = other, e
					}
					e.send(t, "one")
					other.send(t, "other")
					e.stands(t)
					e.step(t)
					other.step(t)
					e.recv(t, e.ack(e.m.sent()))
					other.ends(t)
					e.ends(t)
				}
			}
		}
	}
}

// R4: what was answered stays as it was, whatever comes behind.
func TestAnswersStay(t *testing.T) {
	e := built(t, 1, 0, 4, 0, false)
	early := e.End.Step()
	got, _, _ := e.End.Recv(e.load(1, 2))
	late := e.End.Step()
	e.m.step()
	e.m.recv(e.load(1, 2))
	e.m.step()
	for i := range 6 {
		e.send(t, "later "+strconv.Itoa(i))
	}
	e.ends(t)
	e.begin(t, 2)
	e.ends(t)
	if string(got) != name(1) {
		t.Fatalf("what came has become %q", got)
	}
	for i, m := range early {
		if want := (api.Msg{From: 3, To: 5, Kind: 1, Epoch: 1, Seq: i + 1, Load: []byte(name(i + 1))}); !same(m, want) {
			t.Fatalf("a message has become %+v", m)
		}
	}
	for i, m := range late {
		if want := (api.Msg{From: 3, To: 5, Kind: 1, Epoch: 1, Seq: i + 3, Ack: 1, Load: []byte(name(i + 3))}); !same(m, want) {
			t.Fatalf("a message has become %+v", m)
		}
	}
	if len(early) != 4 || len(late) != 2 {
		t.Fatalf("%d and %d messages", len(early), len(late))
	}
}

// steps are what may be done to an end, also where it is refused.
func steps() []func(t *testing.T, e *end) {
	l := []func(t *testing.T, e *end){
		func(t *testing.T, e *end) { e.send(t, name(e.m.sent()+1)) },
		func(t *testing.T, e *end) { e.send(t, strings.Repeat("x", longest+1)) },
		func(t *testing.T, e *end) { e.step(t) },
		func(t *testing.T, e *end) { e.begin(t, e.m.epoch) },
		func(t *testing.T, e *end) { e.begin(t, e.m.epoch+1) },
		func(t *testing.T, e *end) { e.recv(t, api.Msg{From: 5, To: 3, Kind: 1, Epoch: 1, Seq: 1}) },
	}
	for ack := range 3 {
		l = append(l, func(t *testing.T, e *end) { e.recv(t, e.ack(ack)) })
		for seq := range 3 {
			l = append(l, func(t *testing.T, e *end) { e.recv(t, e.load(seq+1, ack)) })
		}
	}
	return l
}

// P16.1 to P16.3, R5, R7: every way of up to four steps, and what the end still does then.
func TestWays(t *testing.T) {
	all := steps()
	var try func(way []int)
	try = func(way []int) {
		e := fresh(t, 3, 5, 1)
		for _, s := range way {
			all[s](t, e)
		}
		e.ends(t)
		if len(way) == 4 {
			return
		}
		for s := range all {
			try(append(slices.Clip(way), s))
		}
	}
	try(nil)
}

// P16.1 to P16.3, R3: long ways, each twice.
func TestLongWays(t *testing.T) {
	for seed := range int64(200) {
		dice := rand.New(rand.NewSource(seed / 2))
		e := fresh(t, 3, 5, 1)
		for range 300 {
			switch dice.Intn(12) {
			case 0, 1, 2, 3:
				e.send(t, strings.Repeat(name(e.m.sent()+1), 1+dice.Intn(3)))
			case 4:
				e.step(t)
			case 5, 6, 7:
				e.recv(t, e.load(e.m.came+dice.Intn(3), e.m.sent()-dice.Intn(10)))
			case 8, 9:
				e.recv(t, e.ack(e.m.sent()+1-dice.Intn(10)))
			case 10:
				m := e.load(e.m.came+1, e.m.acked)
				m.Epoch += dice.Intn(3) - 1
				e.recv(t, m)
			case 11:
				if dice.Intn(10) == 0 {
					e.begin(t, e.m.epoch+dice.Intn(3)-1)
				}
			}
		}
		e.ends(t)
	}
}

// held is how much memory is held.
func held() int {
	runtime.GC()
	var m runtime.MemStats
	runtime.ReadMemStats(&m)
	return int(m.HeapAlloc)
}

// An end holds no load that was acked, or came, or was sent ahead of a Begin.
func TestLean(t *testing.T) {
	const many = 500
	for _, acks := range []int{6, 7, 8, 0} {
		var l []*sess.End
		load := make([]byte, longest)
		for range many {
			e, _ := sess.New(3, 5, 1)
			for range room {
				e.Send(load)
			}
			l = append(l, e)
		}
		before := held()
		for _, e := range l {
			if acks == 0 {
				e.Begin(2)
			}
			for seq := range 20 {
				e.Recv(api.Msg{From: 5, To: 3, Kind: 1, Epoch: e.Epoch(), Seq: seq + 1, Ack: acks, Load: load})
			}
			e.Step()
		}
		if after := held(); before-after < many*longest*5 {
			t.Fatalf("%d bytes are held with all loads open, and %d behind an ack of %d", before, after, acks)
		}
		runtime.KeepAlive(l)
	}
}
