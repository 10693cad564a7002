package poll_test

import (
	"math"
	"slices"
	"testing"

	"usher/api"
	"usher/net"
	"usher/poll"
)

const (
	lis   = -1 // the listener
	level = false
	edge  = true
	peer  = 7
	row   = "abc"
	much  = 1 << 20
)

// none are numbers that are neither the listener nor a connection of a Net of a few; among them those that would be one
// if they lost bits.
var none = []int{-2, -3, -64, math.MinInt32, -1 << 32, 1 - 1<<32, math.MinInt + 1, math.MinInt,
	64, 256, api.MaxSlots, api.MaxConn, math.MaxInt32, 1<<32 - 1, 1 << 32, 1<<32 + 1, 1 << 48, math.MaxInt - 1, math.MaxInt}

func handle(slot, gen int) api.Handle { return api.Handle{Slot: slot, Gen: gen} }

func event(h api.Handle, id int, read, write bool) api.Event {
	return api.Event{Handle: h, ID: id, Read: read, Write: write}
}

// view is all that can be asked of a number of a Net.
type view struct {
	state         net.State
	read, write   bool // Ready
	reads, writes int  // Marks
	got, taken    string
	ended         bool // no more will come
}

func look(n *net.Net, c int) view {
	v := view{state: n.State(c), taken: string(n.Taken(c))}
	v.read, v.write = n.Ready(c)
	v.reads, v.writes = n.Marks(c)
	got, ended := n.Got(c)
	v.got, v.ended = string(got), ended
	return v
}

// all is all that can be asked of a Net, of numbers that are no connection, too.
func all(n *net.Net) (l []view, waiting, open int) {
	came, _ := n.Marks(lis)
	for c := lis - 1; c <= came; c++ {
		l = append(l, look(n, c))
	}
	waiting, open = n.Len()
	return l, waiting, open
}

// leaves holds that a call changes nothing that can be asked of a Net.
func leaves(t *testing.T, n *net.Net, name string, call func()) {
	t.Helper()
	before, waiting, open := all(n)
	call()
	if after, w, o := all(n); !slices.Equal(before, after) || w != waiting || o != open {
		t.Errorf("%s changed the Net from %v into %v", name, before, after)
	}
}

func newNet(t *testing.T) *net.Net {
	t.Helper()
	n, err := net.New(api.MaxBacklog)
	if n == nil || err != api.OK {
		t.Fatalf("net.New = %v, %v", n, err)
	}
	return n
}

// join is one more who comes and is taken; who waited already is taken, too.
func join(t *testing.T, n *net.Net) int {
	t.Helper()
	c, err := n.Connect(peer)
	if err != api.OK {
		t.Fatalf("Connect = %v", err)
	}
	for w, _ := n.Len(); w > 0; w-- {
		n.Accept()
	}
	return c
}

// opened is a Net with so many that are open, and a Poller over it.
func opened(t *testing.T, conns int) (*net.Net, *poll.Poller) {
	t.Helper()
	n := newNet(t)
	for range conns {
		join(t, n)
	}
	return n, newPoller(t, n)
}

func newPoller(t *testing.T, n *net.Net) *poll.Poller {
	t.Helper()
	p, err := poll.New(n)
	if p == nil || err != api.OK {
		t.Fatalf("New = %v, %v", p, err)
	}
	return p
}

// ok is for what a test needs of the Net.
func ok(t *testing.T, call string, err api.Errno) {
	t.Helper()
	if err != api.OK {
		t.Fatalf("%s = %v", call, err)
	}
}

func send(t *testing.T, n *net.Net, c int, s string) {
	t.Helper()
	_, err := n.Send(c, []byte(s))
	ok(t, "Send", err)
}

func open(t *testing.T, n *net.Net, c, bytes int) {
	t.Helper()
	ok(t, "Open", n.Open(c, bytes))
}

// drain reads all that was sent.
func drain(t *testing.T, n *net.Net, c int) {
	t.Helper()
	_, err := n.Read(c, much)
	ok(t, "Read", err)
}

// fill writes as much as the window lets go, so that nothing more can be.
func fill(t *testing.T, n *net.Net, c int) {
	t.Helper()
	_, err := n.Write(c, make([]byte, much))
	ok(t, "Write", err)
}

func watch(t *testing.T, p *poll.Poller, id int, read, write, byEdge bool, want api.Handle) {
	t.Helper()
	holdWatch(t, p, id, read, write, byEdge, want, api.OK)
}

func holdWatch(t *testing.T, p *poll.Poller, id int, read, write, byEdge bool, want api.Handle, wantErr api.Errno) {
	t.Helper()
	if h, err := p.Watch(id, read, write, byEdge); h != want || err != wantErr {
		t.Errorf("Watch(%d) = %v, %v, not %v, %v", id, h, err, want, wantErr)
	}
}

func holdChange(t *testing.T, p *poll.Poller, h api.Handle, read, write bool, want api.Errno) {
	t.Helper()
	if err := p.Change(h, read, write); err != want {
		t.Errorf("Change(%v) = %v, not %v", h, err, want)
	}
}

func holdDrop(t *testing.T, p *poll.Poller, want int, h ...api.Handle) {
	t.Helper()
	if k := p.Drop(h...); k != want {
		t.Errorf("Drop(%v) = %d, not %d", h, k, want)
	}
}

func holdWait(t *testing.T, p *poll.Poller, picks []int, want ...api.Event) {
	t.Helper()
	if l := p.Wait(picks...); !slices.Equal(l, want) {
		t.Errorf("Wait(%v) = %v, not %v", picks, l, want)
	}
}

func holdWatched(t *testing.T, p *poll.Poller, want int) {
	t.Helper()
	if k := p.Watched(); k != want {
		t.Errorf("Watched = %d, not %d", k, want)
	}
}

// told are the events' IDs, in their order.
func told(l []api.Event) []int {
	ids := []int{}
	for _, e := range l {
		ids = append(ids, e.ID)
	}
	return ids
}

// The chapter's example.
func TestExample(t *testing.T) {
	n := newNet(t)
	p := newPoller(t, n)
	h := handle(0, 1)
	watch(t, p, lis, true, false, level, h)
	holdWait(t, p, nil)
	if c, err := n.Connect(1); c != 0 || err != api.OK {
		t.Fatal(c, err)
	}
	holdWait(t, p, nil, event(h, lis, true, false))
	holdWait(t, p, nil, event(h, lis, true, false))
}

// P8.1: New of nil, and of a Net in whatever state.
func TestNew(t *testing.T) {
	if p, err := poll.New(nil); p != nil || err != api.ErrArg {
		t.Errorf("New(nil) = %v, %v", p, err)
	}
	stopped := newNet(t)
	stopped.Stop()
	busy, _ := opened(t, 3)
	open(t, busy, 1, 5)
	for _, n := range []*net.Net{newNet(t), stopped, busy} {
		leaves(t, n, "New", func() {
			p := newPoller(t, n)
			if p.Net != n {
				t.Error("it is over another Net")
			}
			holdWatched(t, p, 0)
			holdWait(t, p, nil)
			watch(t, p, lis, true, true, level, handle(0, 1))
		})
	}
}

// P8.1: Watch of the listener, however the Net stands, and of an open connection; of nobody else.
func TestWatchOf(t *testing.T) {
	n, p := opened(t, 4) // 0 open, 1 broken while open, 2 closed, 3 broken and closed; then 4 waits, 5 waits and is broken
	for c := 4; c < 6; c++ {
		if _, err := n.Connect(peer); err != api.OK {
			t.Fatal(err)
		}
	}
	for _, c := range []int{1, 3, 5} {
		ok(t, "Reset", n.Reset(c))
	}
	n.Close(2, 3)
	for _, id := range append([]int{2, 3, 4, 5, 6, 7}, none...) {
		for range 2 {
			leaves(t, n, "a Watch that errs", func() { holdWatch(t, p, id, true, true, edge, handle(0, 0), api.ErrNone) })
			holdWatched(t, p, 0)
			holdWait(t, p, nil)
		}
	}
	for slot, id := range []int{1, lis, 0} {
		leaves(t, n, "Watch", func() { watch(t, p, id, true, true, level, handle(slot, 1)) })
		holdWatched(t, p, slot+1)
	}
	holdWait(t, p, nil, event(handle(0, 1), 1, true, true), event(handle(1, 1), lis, true, false))
	n.Stop()
	for _, id := range []int{4, 5} {
		holdWatch(t, p, id, true, true, level, handle(0, 0), api.ErrNone)
	}
	holdDrop(t, p, 1, handle(1, 1))
	watch(t, p, lis, true, true, level, handle(1, 2))
	holdWait(t, p, nil, event(handle(0, 1), 1, true, true))
}

// P8.1: a Watch of a Net on which nobody ever came.
func TestWatchOfEmptyNet(t *testing.T) {
	p := newPoller(t, newNet(t))
	for _, id := range append([]int{0, 1}, none...) {
		holdWatch(t, p, id, true, true, level, handle(0, 0), api.ErrNone)
	}
	watch(t, p, lis, true, true, level, handle(0, 1))
	holdWait(t, p, nil)
}

// P8.1: ErrState of one that is watched, and then it is watched as it was; behind a Drop it may be watched anew.
func TestWatchTwice(t *testing.T) {
	n, p := opened(t, 2)
	send(t, n, 0, "x")
	open(t, n, 0, 1)
	n.Connect(peer)
	watch(t, p, 0, true, false, edge, handle(0, 1))
	watch(t, p, lis, true, false, level, handle(1, 1))
	for range 2 {
		for _, id := range []int{0, lis} {
			for _, asked := range []bool{false, true} {
				holdWatch(t, p, id, asked, asked, asked, handle(0, 0), api.ErrState)
				holdWatched(t, p, 2)
			}
		}
	}
	listens := event(handle(1, 1), lis, true, false)
	holdWait(t, p, nil, event(handle(0, 1), 0, true, false), listens)
	holdWatch(t, p, 0, true, true, level, handle(0, 0), api.ErrState)
	holdWait(t, p, nil, listens) // 0 is not told anew by that
	holdDrop(t, p, 1, handle(0, 1))
	watch(t, p, 0, false, true, level, handle(0, 2))
	holdWatch(t, p, 0, false, true, level, handle(0, 0), api.ErrState)
	for range 2 {
		holdWait(t, p, nil, event(handle(0, 2), 0, false, true), listens)
	}
	holdDrop(t, p, 2, handle(0, 2), handle(1, 1))
	watch(t, p, lis, true, false, level, handle(0, 3))
	watch(t, p, 1, true, false, level, handle(1, 2))
	watch(t, p, 0, true, false, level, handle(2, 1))
}

// P8.1, W4: ErrNone, then ErrState, then ErrFull.
func TestWatchErrors(t *testing.T) {
	n, p := opened(t, 2)
	watch(t, p, 0, true, true, level, handle(0, 1))
	n.Close(0)
	holdWatch(t, p, 0, true, true, level, handle(0, 0), api.ErrNone) // closed, though it is watched still
	holdWatched(t, p, 1)
	for c := 2; c < api.MaxSlots+3; c++ {
		join(t, n)
	}
	for c := 1; c < api.MaxSlots; c++ {
		watch(t, p, c, true, true, level, handle(c, 1))
	}
	holdWatched(t, p, api.MaxSlots)
	for range 2 {
		holdWatch(t, p, lis, true, true, level, handle(0, 0), api.ErrFull)
		holdWatch(t, p, api.MaxSlots, true, true, level, handle(0, 0), api.ErrFull)
		holdWatch(t, p, api.MaxSlots+2, true, true, level, handle(0, 0), api.ErrFull)
		holdWatch(t, p, 1, true, true, level, handle(0, 0), api.ErrState)
		holdWatch(t, p, api.MaxSlots-1, true, true, level, handle(0, 0), api.ErrState)
		for _, id := range []int{0, api.MaxSlots + 3, -2, math.MaxInt} {
			holdWatch(t, p, id, true, true, level, handle(0, 0), api.ErrNone)
		}
		holdWatched(t, p, api.MaxSlots)
	}
	holdDrop(t, p, 1, handle(77, 1))
	holdWatch(t, p, 76, true, true, level, handle(0, 0), api.ErrState)
	watch(t, p, lis, true, true, level, handle(77, 2))
	holdWatch(t, p, 77, true, true, level, handle(0, 0), api.ErrFull)
	holdWatch(t, p, lis, true, true, level, handle(0, 0), api.ErrState)
	holdDrop(t, p, 2, handle(5, 1), handle(3, 1))
	watch(t, p, api.MaxSlots, true, true, level, handle(3, 2))
	watch(t, p, 3, true, true, level, handle(5, 2))
	holdWatch(t, p, 5, true, true, level, handle(0, 0), api.ErrFull)
}

// P8.1: the Handle is that of the least slot that is free, with how often it was used by now.
func TestHandles(t *testing.T) {
	_, p := opened(t, 4)
	for c := range 4 {
		watch(t, p, c, true, true, level, handle(c, 1))
	}
	holdDrop(t, p, 1, handle(2, 1))
	holdDrop(t, p, 1, handle(1, 1))
	watch(t, p, 2, true, true, level, handle(1, 2))
	watch(t, p, 1, true, true, level, handle(2, 2))
	watch(t, p, lis, true, true, level, handle(4, 1))
	for gen := 2; gen < 300; gen++ {
		holdDrop(t, p, 1, handle(0, gen-1))
		watch(t, p, 0, true, true, level, handle(0, gen))
	}
}

// P8.1: Change and Drop of Handles that are not in use: dropped, of elder and later generations, of other slots, made up.
func TestStaleHandles(t *testing.T) {
	n, p := opened(t, 3)
	open(t, n, 0, 1)
	send(t, n, 1, "x")
	watch(t, p, 0, false, true, level, handle(0, 1))
	watch(t, p, 1, true, false, level, handle(1, 1))
	watch(t, p, 2, true, true, level, handle(2, 1))
	holdDrop(t, p, 2, handle(1, 1), handle(2, 1))
	watch(t, p, 1, true, false, edge, handle(1, 2))
	first := event(handle(0, 1), 0, false, true)
	holdWait(t, p, nil, first, event(handle(1, 2), 1, true, false))
	stale := []api.Handle{handle(1, 1), handle(2, 1), handle(0, 0), handle(0, 2), handle(1, 0), handle(1, 3), handle(2, 0), handle(2, 2), handle(3, 1), handle(0, -1), handle(1, -2)}
	for _, slot := range none {
		stale = append(stale, handle(slot, 1), handle(slot, 0), handle(0, slot), handle(1, slot))
	}
	stale = append(stale, handle(-1, 1), handle(-1, 0), handle(-1, 2))
	for _, h := range stale {
		leaves(t, n, "Change", func() { holdChange(t, p, h, true, true, api.ErrStale) })
		holdChange(t, p, h, false, false, api.ErrStale)
		leaves(t, n, "Drop", func() { holdDrop(t, p, 0, h) })
		holdDrop(t, p, 0, h, h)
		holdWatched(t, p, 2)
	}
	holdDrop(t, p, 0, stale...)
	holdWait(t, p, nil, first) // 1, which was told, is told no more
	holdDrop(t, p, 2, slices.Concat(stale, []api.Handle{handle(1, 2)}, stale, []api.Handle{handle(0, 1)})...)
	holdWatched(t, p, 0)
}

// P8.1: Drop of none, of several, of one twice in one call, of those whose connection is closed.
func TestDrop(t *testing.T) {
	n, p := opened(t, 6)
	holdDrop(t, p, 0)
	h := make([]api.Handle, 6)
	for c := range h {
		h[c] = handle(c, 1)
		watch(t, p, c, true, true, level, h[c])
		open(t, n, c, 1)
	}
	holdDrop(t, p, 0)
	holdDrop(t, p, 0, []api.Handle{}...)
	holdWatched(t, p, 6)
	leaves(t, n, "Drop", func() { holdDrop(t, p, 1, h[2], h[2]) })
	holdWatched(t, p, 5)
	holdDrop(t, p, 3, h[4], h[0], h[2], h[4], h[1], h[0])
	holdWatched(t, p, 2)
	holdWait(t, p, nil, event(h[3], 3, false, true), event(h[5], 5, false, true))
	n.Close(3)
	holdWatched(t, p, 2)
	holdDrop(t, p, 2, h[5], h[3])
	holdDrop(t, p, 0, h...)
	holdWatched(t, p, 0)
	holdWait(t, p, nil)
}

// P8.2: which of what is ready is told: what is asked for.
func TestAsked(t *testing.T) {
	for _, read := range []bool{false, true} {
		for _, write := range []bool{false, true} {
			for _, byEdge := range []bool{level, edge} {
				n, p := opened(t, 4) // 0 neither, 1 read, 2 write, 3 both
				n.Connect(peer)
				for slot, c := range []int{0, 1, 2, 3, lis} {
					watch(t, p, c, read, write, byEdge, handle(slot, 1))
				}
				holdWatched(t, p, 5)
				send(t, n, 1, "x")
				open(t, n, 2, 1)
				send(t, n, 3, "x")
				open(t, n, 3, 1)
				var want []api.Event
				for slot, e := range []api.Event{{}, {ID: 1, Read: true}, {ID: 2, Write: true}, {ID: 3, Read: true, Write: true}, {ID: lis, Read: true}} {
					if r, w := e.Read && read, e.Write && write; r || w {
						want = append(want, event(handle(slot, 1), e.ID, r, w))
					}
				}
				leaves(t, n, "Wait", func() { holdWait(t, p, nil, want...) })
				if byEdge {
					want = nil
				}
				holdWait(t, p, nil, want...)
				holdWatched(t, p, 5)
			}
		}
	}
}

// P8.4: without edge what is ready is told again and again, and no more once it is not.
func TestLevel(t *testing.T) {
	n, p := opened(t, 1)
	h := handle(0, 1)
	again := func(want ...api.Event) {
		t.Helper()
		for range 3 {
			holdWait(t, p, nil, want...)
		}
	}
	watch(t, p, 0, true, true, level, h)
	again()
	send(t, n, 0, row)
	again(event(h, 0, true, false))
	open(t, n, 0, 5)
	again(event(h, 0, true, true))
	drain(t, n, 0)
	again(event(h, 0, false, true))
	fill(t, n, 0)
	again()
	open(t, n, 0, 5)
	again(event(h, 0, false, true))
	ok(t, "Shut", n.Shut(0))
	again()
	ok(t, "Half", n.Half(0))
	again(event(h, 0, true, false))
	ok(t, "Reset", n.Reset(0))
	again(event(h, 0, true, true))
	n.Close(0)
	again()
}

// arrivals are what can come to an open connection 0 or the listener, and what is told behind it.
var arrivals = []struct {
	name        string
	come        func(n *net.Net)
	id          int
	read, write bool
}{
	{"Send", func(n *net.Net) { n.Send(0, []byte(row)) }, 0, true, false},
	{"Send of several rows", func(n *net.Net) { n.Send(0, nil, []byte("a"), []byte("b")) }, 0, true, false},
	{"two Sends", func(n *net.Net) { n.Send(0, []byte("a")); n.Send(0, []byte("b")) }, 0, true, false},
	{"Open", func(n *net.Net) { n.Open(0, 2) }, 0, false, true},
	{"many Opens", func(n *net.Net) { n.Open(0, 2); n.Open(0, 1); n.Open(0, 9) }, 0, false, true},
	{"Send and Open", func(n *net.Net) { n.Send(0, []byte("a")); n.Open(0, 1) }, 0, true, true},
	{"Half", func(n *net.Net) { n.Half(0) }, 0, true, false},
	{"Half and Open", func(n *net.Net) { n.Half(0); n.Open(0, 1) }, 0, true, true},
	{"Send and Half", func(n *net.Net) { n.Send(0, []byte("a")); n.Half(0) }, 0, true, false},
	{"Reset", func(n *net.Net) { n.Reset(0) }, 0, true, true},
	{"Send and Reset", func(n *net.Net) { n.Send(0, []byte("a")); n.Reset(0) }, 0, true, true},
	{"Connect", func(n *net.Net) { n.Connect(1) }, lis, true, false},
	{"two Connects", func(n *net.Net) { n.Connect(1); n.Connect(2) }, lis, true, false},
	{"Send of nothing", func(n *net.Net) { n.Send(0); n.Send(0, nil, []byte{}) }, 0, false, false},
	{"Open of 0", func(n *net.Net) { n.Open(0, 0) }, 0, false, false},
	{"what errs", func(n *net.Net) { n.Open(0, -1); n.Connect(256); n.Send(9, []byte("x")) }, 0, false, false},
}

// P8.2, P8.4: with edge each thing that came is told once, at whichever time it came; behind a Change anew, once.
func TestEdgeOnce(t *testing.T) {
	for _, a := range arrivals {
		for _, late := range []bool{false, true} {
			n, p := opened(t, 2)
			h := [2]api.Handle{handle(0, 1), handle(1, 1)} // the connection's, the listener's
			if !late {
				a.come(n)
			}
			watch(t, p, 0, true, true, edge, h[0])
			watch(t, p, lis, true, true, edge, h[1])
			if late {
				holdWait(t, p, nil)
				a.come(n)
			}
			var want []api.Event
			mine := h[min(-a.id, 1)]
			if a.read || a.write {
				want = append(want, event(mine, a.id, a.read, a.write))
			}
			holdWait(t, p, nil, want...)
			for range 3 {
				holdWait(t, p, nil)
			}
			holdChange(t, p, mine, true, true, api.OK)
			holdWait(t, p, nil, want...)
			holdWait(t, p, nil)
			if t.Failed() {
				t.Fatalf("with %s, late: %v", a.name, late)
			}
		}
	}
}

// P8.2: with edge, of what comes the second time: told, if it is marked, though what came first is there still.
func TestEdgeAgain(t *testing.T) {
	n, p := opened(t, 1)
	h := handle(0, 1)
	watch(t, p, 0, true, true, edge, h)
	reads, writes, both := event(h, 0, true, false), event(h, 0, false, true), event(h, 0, true, true)
	for range 3 {
		send(t, n, 0, "x")
		holdWait(t, p, nil, reads)
		holdWait(t, p, nil)
		open(t, n, 0, 1)
		holdWait(t, p, nil, writes)
		holdWait(t, p, nil)
		send(t, n, 0, "x")
		open(t, n, 0, 1)
		holdWait(t, p, nil, both)
		holdWait(t, p, nil)
	}
	send(t, n, 0, string(make([]byte, api.InRoom)))
	holdWait(t, p, nil, reads)
	send(t, n, 0, "there is no room for it")
	open(t, n, 0, 0)
	holdWait(t, p, nil)
	ok(t, "Half", n.Half(0))
	holdWait(t, p, nil, reads)
	ok(t, "Half", n.Half(0))
	holdWait(t, p, nil)
	drain(t, n, 0)
	fill(t, n, 0)
	holdWait(t, p, nil)
	open(t, n, 0, 1)
	holdWait(t, p, nil, writes)
	ok(t, "Reset", n.Reset(0))
	holdWait(t, p, nil, both)
	n.Reset(0)
	n.Half(0)
	n.Open(0, 1)
	holdWait(t, p, nil)
}

// P8.2: with edge, what came and is there no more is not told; what was told is what counts, not what came.
func TestEdgeGone(t *testing.T) {
	n, p := opened(t, 1)
	h := handle(0, 1)
	watch(t, p, 0, true, true, edge, h)
	for range 3 {
		send(t, n, 0, row)
		open(t, n, 0, 3)
		drain(t, n, 0)
		fill(t, n, 0)
		holdWait(t, p, nil)
	}
	send(t, n, 0, row)
	holdWait(t, p, nil, event(h, 0, true, false))
	drain(t, n, 0)
	send(t, n, 0, row)
	drain(t, n, 0)
	holdWait(t, p, nil)
	send(t, n, 0, row)
	open(t, n, 0, 3)
	if b, err := n.Read(0, 1); len(b) != 1 || err != api.OK {
		t.Fatal(b, err)
	}
	ok(t, "Shut", n.Shut(0))
	holdWait(t, p, nil, event(h, 0, true, false))
	open(t, n, 0, 3)
	holdWait(t, p, nil)
}

// P8.2: the listener with edge: each Connect is told once, whoever is taken meanwhile.
func TestEdgeOfListener(t *testing.T) {
	n := newNet(t)
	p := newPoller(t, n)
	h := handle(0, 1)
	watch(t, p, lis, true, true, edge, h)
	comes := event(h, lis, true, false)
	connect := func(times int) {
		for range times {
			_, err := n.Connect(peer)
			ok(t, "Connect", err)
		}
	}
	accept := func(want api.Errno) {
		t.Helper()
		if _, _, err := n.Accept(); err != want {
			t.Fatalf("Accept = %v", err)
		}
	}
	connect(1)
	holdWait(t, p, nil, comes)
	holdWait(t, p, nil)
	connect(3)
	holdWait(t, p, nil, comes)
	accept(api.OK)
	n.Inject(1)
	accept(api.ErrAccept)
	holdWait(t, p, nil)
	connect(1)
	accept(api.OK)
	holdWait(t, p, nil, comes)
	holdWait(t, p, nil)
	for range 3 {
		accept(api.OK)
	}
	connect(1)
	accept(api.OK)
	holdWait(t, p, nil)
	connect(2)
	n.Stop()
	holdWait(t, p, nil)
}

// P8.1, P8.2: behind a Change what is ready is told anew, of both directions, and as it is asked for now; an edge stays one.
func TestChange(t *testing.T) {
	for _, first := range [][2]bool{{false, false}, {true, false}, {false, true}, {true, true}} {
		for _, then := range [][2]bool{{false, false}, {true, false}, {false, true}, {true, true}} {
			for _, byEdge := range []bool{level, edge} {
				n, p := opened(t, 2)
				for c := range 2 {
					send(t, n, c, "x")
					open(t, n, c, 1)
				}
				tell := func(c int, asked [2]bool) {
					t.Helper()
					want := []api.Event{event(handle(c, 1), c, asked[0], asked[1])}
					if asked == [2]bool{} {
						want = nil
					}
					holdWait(t, p, nil, want...)
				}
				watch(t, p, 0, first[0], first[1], byEdge, handle(0, 1))
				tell(0, first)
				leaves(t, n, "Change", func() { holdChange(t, p, handle(0, 1), then[0], then[1], api.OK) })
				tell(0, then)
				holdChange(t, p, handle(0, 1), first[0], first[1], api.OK)
				tell(0, first)
				if byEdge {
					tell(0, [2]bool{})
				} else {
					tell(0, first)
				}
				holdWatched(t, p, 1)
				watch(t, p, 1, then[0], then[1], byEdge, handle(1, 1)) // not told by Change of the other one
				holdChange(t, p, handle(0, 1), false, false, api.OK)
				tell(1, then)
				holdWatch(t, p, 0, true, true, byEdge, handle(0, 0), api.ErrState)
			}
		}
	}
}

// P8.1, P8.2: one that is watched in the slot of another one begins anew: what it asks, its edge, what was told.
func TestSlotOfAnother(t *testing.T) {
	n, p := opened(t, 2)
	for range 5 {
		send(t, n, 0, "x")
		open(t, n, 0, 1)
	}
	send(t, n, 1, "x")
	open(t, n, 1, 1)
	watch(t, p, 0, true, true, edge, handle(0, 1))
	holdWait(t, p, nil, event(handle(0, 1), 0, true, true))
	holdDrop(t, p, 1, handle(0, 1))
	holdWait(t, p, nil)
	watch(t, p, 1, true, true, edge, handle(0, 2))
	holdWait(t, p, nil, event(handle(0, 2), 1, true, true))
	holdWait(t, p, nil)
	holdDrop(t, p, 1, handle(0, 2))
	watch(t, p, 1, false, true, level, handle(0, 3))
	for range 2 {
		holdWait(t, p, nil, event(handle(0, 3), 1, false, true))
	}
	holdDrop(t, p, 1, handle(0, 3))
	watch(t, p, 1, true, false, edge, handle(0, 4))
	holdWait(t, p, nil, event(handle(0, 4), 1, true, false))
	holdWait(t, p, nil)
}

// P8.4: a connection that is closed is told no more, though it is watched till it is dropped, and cannot be then.
func TestClosed(t *testing.T) {
	for _, byEdge := range []bool{level, edge} {
		for _, broken := range []bool{false, true} {
			n, p := opened(t, 3)
			for c := range 3 {
				send(t, n, c, row)
				open(t, n, c, 3)
				watch(t, p, c, true, true, byEdge, handle(c, 1))
			}
			if broken {
				ok(t, "Reset", n.Reset(1))
			}
			if p.Close(1) != 1 {
				t.Fatal("Close")
			}
			rest := []api.Event{event(handle(0, 1), 0, true, true), event(handle(2, 1), 2, true, true)}
			holdWait(t, p, nil, rest...)
			holdWatched(t, p, 3)
			holdChange(t, p, handle(1, 1), true, true, api.OK)
			if byEdge {
				rest = nil
			}
			holdWait(t, p, nil, rest...)
			holdWatch(t, p, 1, true, true, byEdge, handle(0, 0), api.ErrNone)
			holdDrop(t, p, 1, handle(1, 1))
			holdWatch(t, p, 1, true, true, byEdge, handle(0, 0), api.ErrNone)
			holdWait(t, p, nil, rest...)
			holdWatched(t, p, 2)
		}
	}
}

// P8.2: by slots, whatever the connections' numbers are and in whichever order they came to be ready.
func TestBySlots(t *testing.T) {
	n, p := opened(t, 5)
	n.Connect(peer)
	for slot, id := range []int{3, 1, lis, 4, 0, 2} {
		watch(t, p, id, true, true, level, handle(slot, 1))
	}
	for _, c := range []int{2, 4, 0, 3} {
		open(t, n, c, 1)
	}
	hold := func(want ...int) {
		t.Helper()
		if l := told(p.Wait()); !slices.Equal(l, want) {
			t.Errorf("told are %v, not %v", l, want)
		}
	}
	hold(3, lis, 4, 0, 2)
	send(t, n, 1, "x")
	hold(3, 1, lis, 4, 0, 2)
	holdDrop(t, p, 2, handle(1, 1), handle(4, 1))
	hold(3, lis, 4, 2)
	watch(t, p, 0, true, true, level, handle(1, 2))
	hold(3, 0, lis, 4, 2)
	watch(t, p, 1, true, true, level, handle(4, 2))
	hold(3, 0, lis, 4, 1, 2)
	fill(t, n, 3)
	hold(0, lis, 4, 1, 2)
}

// ready is a Poller with so many that are ready, the connection's number its slot.
func ready(t *testing.T, conns int) (*net.Net, *poll.Poller) {
	t.Helper()
	n, p := opened(t, conns)
	for c := range conns {
		open(t, n, c, 1)
		watch(t, p, c, true, true, level, handle(c, 1))
	}
	return n, p
}

// P8.2: picks: none, fewer than are ready, just as many, more; below 0, 0, and large ones.
func TestPicks(t *testing.T) {
	n, p := ready(t, 5)
	for _, c := range []struct{ picks, want []int }{
		{nil, []int{0, 1, 2, 3, 4}},
		{[]int{}, []int{0, 1, 2, 3, 4}},
		{[]int{0}, []int{0, 1, 2, 3, 4}},
		{[]int{0, 0, 0, 0, 0, 0, 0}, []int{0, 1, 2, 3, 4}},
		{[]int{1}, []int{1, 0, 2, 3, 4}},
		{[]int{4}, []int{4, 0, 1, 2, 3}},
		{[]int{5}, []int{0, 1, 2, 3, 4}},
		{[]int{6}, []int{1, 0, 2, 3, 4}},
		{[]int{4, 3, 2, 1, 0}, []int{4, 3, 2, 1, 0}},
		{[]int{4, 4, 4, 4, 4}, []int{4, 0, 2, 1, 3}},
		{[]int{2, 2}, []int{2, 3, 0, 1, 4}},
		{[]int{2, 2, 2}, []int{2, 3, 4, 0, 1}},
		{[]int{0, 3}, []int{0, 4, 1, 2, 3}},
		{[]int{0, 4}, []int{0, 1, 2, 3, 4}},
		{[]int{1, 1, 1, 1}, []int{1, 2, 3, 4, 0}},
		{[]int{1, 1, 1, 1, 1}, []int{1, 2, 3, 4, 0}},
		{[]int{1, 1, 1, 1, 1, 1, 1, 1}, []int{1, 2, 3, 4, 0}},
		{[]int{-1}, []int{0, 1, 2, 3, 4}},
		{[]int{-1, -4, 2}, []int{0, 1, 4, 2, 3}},
		{[]int{-3, 3, -3, 1}, []int{0, 4, 1, 3, 2}},
		{[]int{math.MinInt, 1, math.MinInt + 1}, []int{0, 2, 1, 3, 4}},
		{[]int{math.MaxInt}, []int{2, 0, 1, 3, 4}},                              // 2^63 - 1 is 2 modulo 5
		{[]int{math.MaxInt, math.MaxInt, math.MaxInt}, []int{2, 4, 1, 0, 3}},    // and 3 modulo 4, 1 modulo 3
		{[]int{1 << 32, 1<<32 + 1, 1 << 62, 1}, []int{1, 2, 3, 4, 0}},           // 1 modulo 5, 1 modulo 4, 1 modulo 3
		{[]int{1 << 31, math.MaxInt32, math.MinInt32, 9}, []int{3, 4, 0, 2, 1}}, // 3 modulo 5, 3 modulo 4, 1 modulo 2
	} {
		leaves(t, n, "Wait", func() {
			if l := told(p.Wait(c.picks...)); !slices.Equal(l, c.want) {
				t.Errorf("with the picks %v told are %v, not %v", c.picks, l, c.want)
			}
		})
	}
	for _, e := range p.Wait(3, 1, 2) {
		if e.Handle != handle(e.ID, 1) || e.Read || !e.Write {
			t.Errorf("told is %v", e)
		}
	}
}

// P8.2: picks are for those of which something is told; the others take none.
func TestPicksOfThoseTold(t *testing.T) {
	n, p := ready(t, 6)
	for _, c := range []int{0, 3} {
		fill(t, n, c)
	}
	for _, c := range []struct{ picks, want []int }{
		{nil, []int{1, 2, 4, 5}},
		{[]int{1, 2}, []int{2, 5, 1, 4}},
		{[]int{3, 1, 1}, []int{5, 2, 4, 1}},
		{[]int{5, 5, 5}, []int{2, 5, 4, 1}},
	} {
		if l := told(p.Wait(c.picks...)); !slices.Equal(l, c.want) {
			t.Errorf("with the picks %v told are %v, not %v", c.picks, l, c.want)
		}
	}
	for c := range 6 {
		n.Close(c)
	}
	for _, picks := range [][]int{nil, {0}, {-1}, {1, 2, 3}, {math.MaxInt}} {
		holdWait(t, p, picks)
	}
	holdWait(t, newPoller(t, n), []int{1})
}

// P8.2: each order of a few is that of just one row of picks below how many are left.
func TestEachOrder(t *testing.T) {
	n, p := ready(t, 4)
	orders := map[[4]int]int{}
	for a := range 4 {
		for b := range 3 {
			for c := range 2 {
				l := told(p.Wait(a, b, c, 0))
				orders[[4]int(l)]++
				if again := told(p.Wait(a+4, b+3*7, c+2*50, 9)); !slices.Equal(l, again) {
					t.Errorf("%d, %d, %d: told are %v and then %v", a, b, c, l, again)
				}
				left := []int{0, 1, 2, 3}
				for i, pick := range []int{a, b, c, 0} {
					if l[i] != left[pick] {
						t.Errorf("%d, %d, %d: told are %v", a, b, c, l)
					}
					left = slices.Delete(left, pick, pick+1)
				}
			}
		}
	}
	if len(orders) != 24 {
		t.Errorf("%d orders, not 24", len(orders))
	}
	n.Close(2)
	if l := told(p.Wait(2, 1)); !slices.Equal(l, []int{3, 1, 0}) {
		t.Errorf("told are %v", l)
	}
}

// P8.2: which order is told says nothing of what is told later: with edge each is told once whatever its place was.
func TestPicksWithEdge(t *testing.T) {
	n, p := opened(t, 4)
	for c := range 4 {
		watch(t, p, c, true, true, edge, handle(c, 1))
		send(t, n, c, "x")
	}
	if l := told(p.Wait(3, 1)); !slices.Equal(l, []int{3, 1, 0, 2}) {
		t.Errorf("told are %v", l)
	}
	holdWait(t, p, []int{3, 1})
	send(t, n, 2, "x")
	send(t, n, 1, "x")
	if l := told(p.Wait(1)); !slices.Equal(l, []int{2, 1}) {
		t.Errorf("told are %v", l)
	}
}

// P8.1, P8.2: as many as may be watched, all of them ready, in orders that picks say.
func TestMany(t *testing.T) {
	_, p := ready(t, api.MaxSlots)
	holdWatched(t, p, api.MaxSlots)
	var last, want []int
	for c := range api.MaxSlots {
		last = append(last, api.MaxSlots-1-c)
		want = append(want, c)
	}
	if l := told(p.Wait()); !slices.Equal(l, want) {
		t.Errorf("told are %.200v", l)
	}
	if l := told(p.Wait(last...)); !slices.Equal(l, last) {
		t.Errorf("told from the last one on are %.200v", l)
	}
	if l := told(p.Wait(make([]int, 3*api.MaxSlots)...)); !slices.Equal(l, want) {
		t.Errorf("told from the first one on are %.200v", l)
	}
	h := make([]api.Handle, 0, api.MaxSlots)
	for c := range api.MaxSlots {
		h = append(h, handle(c, 1), handle(c, 1))
	}
	holdDrop(t, p, api.MaxSlots, h...)
	holdWatched(t, p, 0)
	holdWait(t, p, nil)
}

// W6, W7: what was answered stays what it is, and what is done to it, spare room too, changes nothing.
func TestAnswersAreNewMemory(t *testing.T) {
	_, p := ready(t, 4)
	want := []api.Event{event(handle(2, 1), 2, false, true), event(handle(0, 1), 0, false, true), event(handle(1, 1), 1, false, true), event(handle(3, 1), 3, false, true)}
	first := p.Wait(2)
	second := p.Wait(2)
	for _, l := range [][]api.Event{first, p.Wait()} {
		l = l[:cap(l)]
		for i := range l {
			l[i] = event(handle(9, 9), 9, true, true)
		}
	}
	holdWait(t, p, []int{2}, want...)
	holdChange(t, p, handle(1, 1), false, false, api.OK)
	holdDrop(t, p, 1, handle(0, 1))
	p.Wait(1, 1)
	if !slices.Equal(second, want) {
		t.Errorf("what was answered is now %v", second)
	}
}

// W6: picks and Handles are neither changed nor kept, nor is the room behind them.
func TestArgumentsStay(t *testing.T) {
	_, p := ready(t, 4)
	picks := []int{3, -5, 70, 1, 8, 9}
	want := told(p.Wait(3, -5, 70))
	if l := told(p.Wait(picks[:3]...)); !slices.Equal(l, want) {
		t.Errorf("told are %v, not %v", l, want)
	}
	if !slices.Equal(picks, []int{3, -5, 70, 1, 8, 9}) {
		t.Errorf("the picks are now %v", picks)
	}
	l := p.Wait(picks[:3]...)
	clear(picks)
	if !slices.Equal(told(l), want) {
		t.Errorf("behind a change of its picks what was told is %v", told(l))
	}
	h := []api.Handle{handle(0, 1), handle(5, 1), handle(2, 1), handle(1, 1)}
	kept := slices.Clone(h)
	holdDrop(t, p, 2, h[:3]...)
	if !slices.Equal(h, kept) {
		t.Errorf("the Handles are now %v", h)
	}
	clear(h)
	holdWatched(t, p, 2)
	if l := told(p.Wait()); !slices.Equal(l, []int{1, 3}) {
		t.Errorf("told are %v", l)
	}
}

// P8.4, W8: a nil Poller, each function.
func TestNilPoller(t *testing.T) {
	var p *poll.Poller
	for _, id := range append([]int{lis, 0, 1}, none...) {
		holdWatch(t, p, id, true, true, level, handle(0, 0), api.ErrArg)
		holdWatch(t, p, id, false, false, edge, handle(0, 0), api.ErrArg)
	}
	for _, h := range []api.Handle{handle(0, 0), handle(0, 1), handle(-1, 1), handle(9, 9)} {
		holdChange(t, p, h, true, true, api.ErrArg)
		holdDrop(t, p, 0, h, h)
	}
	holdDrop(t, p, 0)
	for _, picks := range [][]int{nil, {0}, {3, -1, math.MaxInt}} {
		holdWait(t, p, picks)
	}
	holdWatched(t, p, 0)
}

// W1: a Poller that New did not make panics at nothing.
func TestUnmadePoller(t *testing.T) {
	n, _ := opened(t, 1)
	open(t, n, 0, 1)
	for _, p := range []*poll.Poller{{}, {Net: n}} {
		for _, id := range []int{lis, 0, 1, -2} {
			if h, err := p.Watch(id, true, true, level); h != handle(0, 0) || err == api.OK {
				t.Errorf("Watch(%d) = %v, %v", id, h, err)
			}
		}
		holdChange(t, p, handle(0, 1), true, true, api.ErrStale)
		holdDrop(t, p, 0, handle(0, 1))
		holdWait(t, p, []int{1})
		holdWatched(t, p, 0)
	}
}

// Ways: a Poller has what its Net has.
var _ interface {
	Connect(peer int) (int, api.Errno)
	Send(c int, p ...[]byte) (int, api.Errno)
	Half(c int) api.Errno
	Reset(c int) api.Errno
	Open(c, bytes int) api.Errno
	Inject(k int)
	Accept() (c, peer int, err api.Errno)
	Read(c, most int) ([]byte, api.Errno)
	Write(c int, p []byte) (int, api.Errno)
	Shut(c int) api.Errno
	Close(c ...int) int
	Stop()
	Ready(c int) (read, write bool)
	Marks(c int) (read, write int)
	Got(c int) ([]byte, bool)
	Taken(c int) []byte
	State(c int) net.State
	Len() (waiting, open int)
} = &poll.Poller{Net: nil}

// Ways: what is done by what is embedded is done to the Net, and what is done to the Net is told.
func TestEmbedded(t *testing.T) {
	n := newNet(t)
	p := newPoller(t, n)
	watch(t, p, lis, true, false, level, handle(0, 1))
	if c, err := p.Connect(5); c != 0 || err != api.OK {
		t.Fatal(c, err)
	}
	holdWait(t, p, nil, event(handle(0, 1), lis, true, false))
	if c, peer, err := p.Accept(); c != 0 || peer != 5 || err != api.OK {
		t.Fatal(c, peer, err)
	}
	watch(t, p, 0, true, true, level, handle(1, 1))
	if k, err := p.Send(0, []byte("ab"), []byte("c")); k != 3 || err != api.OK {
		t.Error(k, err)
	}
	ok(t, "Open", p.Open(0, 2))
	holdWait(t, p, nil, event(handle(1, 1), 0, true, true))
	if b, err := p.Read(0, 9); string(b) != row || err != api.OK {
		t.Error(b, err)
	}
	if k, err := p.Write(0, []byte("xyz")); k != 2 || err != api.OK {
		t.Error(k, err)
	}
	holdWait(t, p, nil)
	ok(t, "Half", p.Half(0))
	ok(t, "Shut", p.Shut(0))
	if got, ended := n.Got(0); string(got) != "xy" || !ended || string(p.Taken(0)) != row {
		t.Errorf("got %q, %v", got, ended)
	}
	if reads, writes := p.Marks(0); reads != 2 || writes != 1 {
		t.Error(reads, writes)
	}
	holdWait(t, p, nil, event(handle(1, 1), 0, true, false))
	ok(t, "Reset", p.Reset(0))
	if p.Close(0, 0) != 1 || n.State(0) != (net.State{Broken: true, Peer: 5}) || p.State(0) != n.State(0) {
		t.Error(n.State(0))
	}
	p.Stop()
	if _, err := n.Connect(1); err != api.ErrClosed {
		t.Error(err)
	}
	holdWait(t, p, nil)
	holdWatched(t, p, 2)
}

// W9: several Pollers over one Net, each with its own.
func TestPollersApart(t *testing.T) {
	n, a := opened(t, 2)
	b := newPoller(t, n)
	send(t, n, 0, "x")
	open(t, n, 1, 1)
	watch(t, a, 0, true, true, edge, handle(0, 1))
	holdWait(t, b, nil)
	holdChange(t, b, handle(0, 1), true, true, api.ErrStale)
	holdDrop(t, b, 0, handle(0, 1))
	watch(t, b, 1, true, true, edge, handle(0, 1))
	watch(t, b, 0, true, true, edge, handle(1, 1))
	holdWait(t, a, nil, event(handle(0, 1), 0, true, false))
	holdWait(t, b, nil, event(handle(0, 1), 1, false, true), event(handle(1, 1), 0, true, false))
	holdWait(t, a, nil)
	holdDrop(t, a, 1, handle(0, 1))
	holdWatched(t, a, 0)
	holdWatched(t, b, 2)
	send(t, n, 0, "x")
	holdWait(t, a, nil)
	holdWait(t, b, nil, event(handle(1, 1), 0, true, false))
}

// W8: a Poller that is copied as a value goes on in the copy.
func TestCopiedPoller(t *testing.T) {
	n, p := opened(t, 2)
	watch(t, p, 0, true, true, edge, handle(0, 1))
	send(t, n, 0, "x")
	holdWait(t, p, nil, event(handle(0, 1), 0, true, false))
	q := *p
	holdWait(t, &q, nil)
	send(t, n, 0, "x")
	holdWait(t, &q, nil, event(handle(0, 1), 0, true, false))
	watch(t, &q, 1, true, true, level, handle(1, 1))
	open(t, n, 1, 1)
	holdDrop(t, &q, 1, handle(0, 1))
	holdWait(t, &q, nil, event(handle(1, 1), 1, false, true))
	holdWatched(t, &q, 1)
}
