package poll_test

import (
	"slices"
	"sync"
	"testing"

	"usher/api"
	"usher/net"
	"usher/poll"
)

// part is one direction of the model's.
type part struct {
	asked, wasTold bool
	told           int // Marks, when it was
}

// item is one that is watched.
type item struct {
	h           api.Handle
	id          int
	edge        bool
	read, write part
}

// pair is a Poller beside a plain model of it. Each call is held against the model; behind it the Net is what it was.
type pair struct {
	t     *testing.T
	n     *net.Net
	p     *poll.Poller
	items []item
	uses  []int // of each slot
	given []api.Handle
	waits []api.Event // what was told so far
}

func newPair(t *testing.T, n *net.Net) *pair {
	t.Helper()
	return &pair{t: t, n: n, p: newPoller(t, n)}
}

// find is where in the model's row a Handle stands; -1: nowhere.
func (p *pair) find(h api.Handle) int {
	return slices.IndexFunc(p.items, func(x item) bool { return x.h == h })
}

// free is the least slot that is not in use.
func (p *pair) free() int {
	slot := 0
	for slices.ContainsFunc(p.items, func(x item) bool { return x.h.Slot == slot }) {
		slot++
	}
	return slot
}

// hold holds that a call leaves the Net, and Watched behind it.
func (p *pair) hold(name string, call func()) {
	p.t.Helper()
	leaves(p.t, p.n, name, call)
	holdWatched(p.t, p.p, len(p.items))
}

func (p *pair) watch(id int, read, write, byEdge bool) {
	p.t.Helper()
	var want api.Handle
	err := api.OK
	switch {
	case id != lis && !p.n.State(id).Open:
		err = api.ErrNone
	case slices.ContainsFunc(p.items, func(x item) bool { return x.id == id }):
		err = api.ErrState
	default:
		slot := p.free()
		for slot >= len(p.uses) {
			p.uses = append(p.uses, 0)
		}
		p.uses[slot]++
		want = handle(slot, p.uses[slot])
		p.given = append(p.given, want)
		p.items = append(p.items, item{want, id, byEdge, part{asked: read}, part{asked: write}})
	}
	p.hold("Watch", func() { holdWatch(p.t, p.p, id, read, write, byEdge, want, err) })
}

func (p *pair) change(h api.Handle, read, write bool) {
	p.t.Helper()
	err := api.ErrStale
	if i := p.find(h); i >= 0 {
		p.items[i].read, p.items[i].write = part{asked: read}, part{asked: write}
		err = api.OK
	}
	p.hold("Change", func() { holdChange(p.t, p.p, h, read, write, err) })
}

func (p *pair) drop(h ...api.Handle) {
	p.t.Helper()
	want := 0
	for _, x := range h {
		if i := p.find(x); i >= 0 {
			p.items = slices.Delete(p.items, i, i+1)
			want++
		}
	}
	p.hold("Drop", func() { holdDrop(p.t, p.p, want, h...) })
}

// tells is what is told of a direction.
func (d *part) tells(ready, byEdge bool, marks int) bool {
	if !d.asked || !ready {
		return false
	}
	if byEdge && d.wasTold && marks <= d.told {
		return false
	}
	d.wasTold, d.told = true, marks
	return true
}

func (p *pair) wait(picks ...int) {
	p.t.Helper()
	slices.SortFunc(p.items, func(a, b item) int { return a.h.Slot - b.h.Slot })
	var left, want []api.Event
	for i := range p.items {
		x := &p.items[i]
		read, write := p.n.Ready(x.id)
		reads, writes := p.n.Marks(x.id)
		e := event(x.h, x.id, x.read.tells(read, x.edge, reads), x.write.tells(write, x.edge, writes))
		if e.Read || e.Write {
			left = append(left, e)
		}
	}
	for i := 0; len(left) > 0; i++ {
		pick := 0
		if i < len(picks) && picks[i] > 0 {
			pick = picks[i] % len(left)
		}
		want = append(want, left[pick])
		left = slices.Concat(left[:pick], left[pick+1:])
	}
	p.waits = append(p.waits, want...)
	p.hold("Wait", func() { holdWait(p.t, p.p, picks, want...) })
}

// steps is how many kinds of step there are.
const steps = 14

// step is one call, of connection 0 or of the listener.
func (p *pair) step(kind int) {
	p.t.Helper()
	switch kind {
	case 0:
		p.n.Send(0, []byte("ab"))
	case 1:
		p.n.Read(0, 2)
	case 2:
		p.n.Open(0, 2)
	case 3:
		p.n.Write(0, []byte("xyz"))
	case 4:
		p.n.Half(0)
	case 5:
		p.n.Reset(0)
	case 6:
		p.n.Shut(0)
	case 7:
		p.n.Close(0)
	case 8:
		p.n.Connect(peer)
		p.n.Connect(peer)
	case 9:
		p.n.Accept()
	case 10:
		p.wait(1)
	case 11:
		p.change(handle(0, 1), true, true)
	case 12:
		p.drop(handle(0, 1))
		p.watch(0, true, true, edge)
	case 13:
		p.watch(1, true, true, edge)
	}
}

// P8.1 to P8.4: all ways of four steps, with and without edge and behind what came already, held against the words of
// the document.
func TestEachStep(t *testing.T) {
	for _, ahead := range [][]int{{}, {0, 2, 10}} {
		for _, byEdge := range []bool{level, edge} {
			for way := range steps * steps * steps * steps {
				l := []int{way % steps, way / steps % steps, way / steps / steps % steps, way / steps / steps / steps}
				n := newNet(t)
				join(t, n)
				p := newPair(t, n)
				p.watch(0, true, true, byEdge)
				p.watch(lis, true, true, byEdge)
				for _, kind := range slices.Concat(ahead, l) {
					p.step(kind)
				}
				p.wait()
				if t.Failed() {
					t.Fatalf("edge %v, behind the steps %v: %v", byEdge, ahead, l)
				}
			}
		}
	}
}

// dice are numbers from a fixed rule, the same in each run.
type dice uint64

func (d *dice) roll(n int) int {
	*d = *d*6364136223846793005 + 1442695040888963407
	return int(uint64(*d)>>33) % n
}

func (d *dice) coin() bool { return d.roll(2) == 0 }

// some are a few numbers, seldom far ones.
func (d *dice) some() []int {
	l := make([]int, d.roll(9))
	for i := range l {
		l[i] = d.roll(12) - 2
		if d.roll(10) == 0 {
			l[i] = none[d.roll(len(none))]
		}
	}
	return l
}

// id is the listener, or one of the last connections, seldom one that there is not.
func (p *pair) id(d *dice) int {
	if d.roll(12) == 0 {
		return []int{lis, lis, -2, 1 << 40}[d.roll(4)]
	}
	came, _ := p.n.Marks(lis)
	return max(came-d.roll(12), 0)
}

// handle is one of the last that were given, seldom one that was not.
func (p *pair) handle(d *dice) api.Handle {
	if len(p.given) == 0 || d.roll(12) == 0 {
		return handle(d.roll(9)-2, d.roll(6)-1)
	}
	return p.given[len(p.given)-1-d.roll(min(len(p.given), 12))]
}

// drive does something on the Net.
func (p *pair) drive(d *dice) {
	c := p.id(d)
	switch d.roll(16) {
	case 0, 1:
		p.n.Connect(d.roll(300))
	case 2, 3:
		p.n.Accept()
	case 4, 5, 6:
		p.n.Send(c, make([]byte, d.roll(3)), make([]byte, d.roll(500)))
	case 7, 8:
		p.n.Open(c, d.roll(30)-1)
	case 9, 10:
		p.n.Read(c, d.roll(700))
	case 11, 12:
		p.n.Write(c, make([]byte, d.roll(40)))
	case 13:
		p.n.Close(c)
	case 14:
		p.n.Inject(d.roll(3))
	case 15:
		switch d.roll(5) {
		case 0:
			p.n.Half(c)
		case 1:
			p.n.Reset(c)
		case 2:
			p.n.Shut(c)
		}
	}
}

// random does some call.
func (p *pair) random(d *dice) {
	p.t.Helper()
	for range d.roll(5) {
		p.drive(d)
	}
	switch d.roll(8) {
	case 0, 1, 2:
		p.watch(p.id(d), d.coin(), d.coin(), d.coin())
	case 3:
		p.change(p.handle(d), d.coin(), d.coin())
	case 4:
		p.drop(p.handle(d), p.handle(d))
	default:
		p.wait(d.some()...)
	}
}

// play is many calls in an order that dice say, held against the words of the document; what was told.
func (p *pair) play(seed int) []api.Event {
	p.t.Helper()
	d := dice(seed)
	for i := range 500 {
		if i == 450 && d.coin() {
			p.n.Stop()
		}
		p.random(&d)
		if p.t.Failed() {
			p.t.Errorf("with the seed %d, in call %d", seed, i)
			break
		}
	}
	return p.waits
}

// P8.1 to P8.4: many calls in many orders.
func TestBesideModel(t *testing.T) {
	for seed := range 80 {
		newPair(t, newNet(t)).play(seed)
	}
}

// W2, P0.7: what is answered depends on what was done alone, not on others, nor on who works meanwhile.
func TestTwins(t *testing.T) {
	want := newPair(t, newNet(t)).play(3)
	got := make([][]api.Event, 4)
	var wait sync.WaitGroup
	for i := range got {
		p := newPair(t, newNet(t))
		wait.Go(func() { got[i] = p.play(3) })
	}
	wait.Wait()
	for i := range got {
		if !slices.Equal(got[i], want) {
			t.Errorf("twin %d is told otherwise", i)
		}
	}
}
