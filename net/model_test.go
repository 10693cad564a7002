package net_test

import (
	"slices"
	"strings"
	"testing"

	"usher/api"
	"usher/net"
)

// link is one connection of the model.
type link struct {
	view
	halved, shut bool
	unread       string
	window       int
}

func (l *link) over() bool { return !l.waits && !l.open }

// breakOff is what Reset and Stop have in common.
func (l *link) breakOff() { l.broken, l.unread, l.window = true, "", 0 }

// now is what is to be told of it.
func (l *link) now() view {
	v := l.view
	if l.open {
		v.read = l.unread != "" || l.halved || l.broken
		v.write = l.window > 0 && !l.shut || l.broken
	}
	v.ended = l.shut || l.broken || l.over()
	return v
}

// pair is a Net beside a plain model of it. Each call is held against the model, and so is all that can be asked behind it.
type pair struct {
	t       *testing.T
	n       *net.Net
	backlog int
	links   []*link
	queue   []int // who wait
	stopped bool
	fails   int
	brief   bool // ask only of the connection that a call was for
}

func newPair(t *testing.T, backlog int) *pair {
	t.Helper()
	return &pair{t: t, n: newNet(t, backlog), backlog: backlog}
}

func (p *pair) find(c int) *link {
	if c < 0 || c >= len(p.links) {
		return nil
	}
	return p.links[c]
}

// theirs is the error of somebody's side.
func (p *pair) theirs(c int) api.Errno {
	switch l := p.find(c); {
	case l == nil:
		return api.ErrNone
	case l.broken:
		return api.ErrReset
	case l.over():
		return api.ErrClosed
	}
	return api.OK
}

// ours is that of the server's side.
func (p *pair) ours(c int) api.Errno {
	switch l := p.find(c); {
	case l == nil || l.waits:
		return api.ErrNone
	case !l.open:
		return api.ErrClosed
	case l.broken:
		return api.ErrReset
	}
	return api.OK
}

func (p *pair) connect(peer int) {
	p.t.Helper()
	want, err := len(p.links), api.OK
	switch {
	case peer < 0 || peer > 255:
		err = api.ErrArg
	case p.stopped:
		err = api.ErrClosed
	case len(p.queue) == p.backlog:
		err = api.ErrFull
	}
	if err != api.OK {
		want = 0
	} else {
		p.queue = append(p.queue, want)
		p.links = append(p.links, &link{view: view{waits: true, peer: peer}})
	}
	holdConnect(p.t, p.n, peer, want, err)
}

func (p *pair) accept() {
	p.t.Helper()
	c, peer, err := 0, 0, api.OK
	switch {
	case p.stopped:
		err = api.ErrClosed
	case len(p.queue) == 0:
		err = api.ErrNone
	case p.fails > 0:
		err = api.ErrAccept
		p.fails--
	default:
		c = p.queue[0]
		p.queue = p.queue[1:]
		l := p.links[c]
		l.waits, l.open, peer = false, true, l.peer
	}
	holdAccept(p.t, p.n, c, peer, err)
}

func (p *pair) send(c int, l ...string) {
	p.t.Helper()
	want, err, all := 0, p.theirs(c), strings.Join(l, "")
	if x := p.find(c); err == api.OK && x.halved {
		err = api.ErrClosed
	} else if err == api.OK {
		want = min(len(all), room-len(x.unread))
		x.unread += all[:want]
		if want > 0 {
			x.reads++
		}
	}
	holdSend(p.t, p.n, c, want, err, rows(l...)...)
}

func (p *pair) half(c int) {
	p.t.Helper()
	err := p.theirs(c)
	if x := p.find(c); err == api.OK && !x.halved {
		x.halved = true
		x.reads++
	}
	holdErr(p.t, "Half", p.n.Half(c), err)
}

func (p *pair) reset(c int) {
	p.t.Helper()
	err := p.theirs(c)
	if x := p.find(c); err == api.OK {
		x.breakOff()
		x.reads++
		x.writes++
	}
	holdErr(p.t, "Reset", p.n.Reset(c), err)
}

func (p *pair) open(c, bytes int) {
	p.t.Helper()
	err := p.theirs(c)
	if bytes < 0 {
		err = api.ErrArg
	} else if x := p.find(c); err == api.OK {
		x.window += bytes
		if bytes > 0 {
			x.writes++
		}
	}
	holdErr(p.t, "Open", p.n.Open(c, bytes), err)
}

func (p *pair) read(c, most int) {
	p.t.Helper()
	want, err := "", p.ours(c)
	if most < 1 {
		err = api.ErrArg
	} else if x := p.find(c); err == api.OK && x.unread != "" {
		want = x.unread[:min(most, len(x.unread))]
		x.unread = x.unread[len(want):]
		x.taken += want
	} else if err == api.OK && !x.halved {
		err = api.ErrAgain
	}
	holdRead(p.t, p.n, c, most, want, err)
}

func (p *pair) write(c int, s string) {
	p.t.Helper()
	want, err := 0, p.ours(c)
	if x := p.find(c); err == api.OK && x.shut {
		err = api.ErrClosed
	} else if err == api.OK && s != "" && x.window == 0 {
		err = api.ErrAgain
	} else if err == api.OK {
		want = min(len(s), x.window)
		x.window -= want
		x.got += s[:want]
	}
	holdWrite(p.t, p.n, c, s, want, err)
}

func (p *pair) shut(c int) {
	p.t.Helper()
	err := p.ours(c)
	if err == api.OK {
		p.links[c].shut = true
	}
	holdErr(p.t, "Shut", p.n.Shut(c), err)
}

func (p *pair) close(c ...int) {
	p.t.Helper()
	want := 0
	for _, k := range c {
		if x := p.find(k); x != nil && x.open {
			x.open = false
			want++
		}
	}
	holdClose(p.t, p.n, want, c...)
}

func (p *pair) inject(k int) {
	p.n.Inject(k)
	p.fails = max(k, 0)
}

func (p *pair) stop() {
	p.n.Stop()
	p.stopped = true
	for _, c := range p.queue {
		p.links[c].waits = false
		p.links[c].breakOff()
	}
	p.queue = nil
}

// hold asks for all that can be asked, of all connections or of just one.
func (p *pair) hold(only int) {
	p.t.Helper()
	open := 0
	for c, l := range p.links {
		if l.open {
			open++
		}
		if !p.brief || c == only {
			holdView(p.t, p.n, c, l.now())
		}
	}
	holdView(p.t, p.n, len(p.links), view{})
	holdView(p.t, p.n, -1, view{read: len(p.queue) > 0, reads: len(p.links)})
	holdLen(p.t, p.n, len(p.queue), open)
}

// steps is how many kinds of step there are.
const steps = 14

// step is one call, with numbers that are small.
func (p *pair) step(kind, c int) {
	p.t.Helper()
	switch kind {
	case 0:
		p.connect(7)
	case 1:
		p.accept()
	case 2:
		p.send(c, "a", "", "bc")
	case 3:
		p.send(c, text(room-1))
	case 4:
		p.half(c)
	case 5:
		p.reset(c)
	case 6:
		p.open(c, 2)
	case 7:
		p.read(c, 2)
	case 8:
		p.write(c, "x")
	case 9:
		p.write(c, "yzz")
	case 10:
		p.shut(c)
	case 11:
		p.close(c)
	case 12:
		p.inject(1)
	case 13:
		p.stop()
	}
	p.hold(c)
}

// P7.1 to P7.6: all ways of four steps behind each of some beginnings, held against the words of the document.
func TestEachStep(t *testing.T) {
	for _, ahead := range [][]int{{}, {0, 2, 6}, {0, 1, 2, 6}, {0, 0, 1, 6}} {
		for way := range steps * steps * steps * steps {
			p := newPair(t, 2)
			for _, kind := range ahead {
				p.step(kind, 0)
			}
			l := []int{way % steps, way / steps % steps, way / steps / steps % steps, way / steps / steps / steps}
			for _, kind := range l {
				p.step(kind, 0)
			}
			if t.Failed() {
				t.Fatalf("behind the steps %v: %v", ahead, l)
			}
		}
	}
}

// dice are numbers from a fixed rule, the same in each run.
type dice uint64

func (d *dice) roll(n int) int {
	*d = *d*6364136223846793005 + 1442695040888963407
	return int(uint64(*d)>>33) % n
}

// some are fewer than n bytes.
func (d *dice) some(n int) string {
	b := make([]byte, d.roll(n))
	for i := range b {
		b[i] = byte(d.roll(256))
	}
	return string(b)
}

// conn is a connection's number, most often one of the last ones; seldom there is none of it.
func (p *pair) conn(d *dice) int {
	if d.roll(20) == 0 {
		return d.roll(3) - 2
	}
	return max(len(p.links)-d.roll(8), 0)
}

// random does some call.
func (p *pair) random(d *dice, stops bool) {
	p.t.Helper()
	c := p.conn(d)
	switch d.roll(22) {
	case 0, 1, 2:
		p.connect(d.roll(260) - 2)
	case 3, 4, 5:
		p.accept()
	case 6, 7, 8:
		p.send(c, d.some(20), d.some(400), d.some(5))
	case 9:
		p.send(c, d.some(2*room), d.some(9))
	case 10, 11:
		p.open(c, d.roll(400)-3)
	case 12, 13, 14:
		p.read(c, d.roll(500)-1)
	case 15, 16, 17:
		p.write(c, d.some(300))
	case 18:
		p.close(c, p.conn(d))
	case 19:
		p.shut(c)
	case 20:
		p.inject(d.roll(4) - 1)
	case 21:
		switch k := d.roll(40); {
		case k < 12:
			p.half(c)
		case k < 20:
			p.reset(c)
		case k == 20 && stops:
			p.stop()
		}
	}
	p.hold(c)
}

// P7.1 to P7.7: many calls in many orders, held against the words of the document.
func TestBesideModel(t *testing.T) {
	for seed := range 60 {
		d := dice(seed)
		p := newPair(t, 1+seed%5)
		for range 800 {
			p.brief = d.roll(10) != 0
			p.random(&d, seed%2 == 0)
		}
		p.brief = false
		p.hold(0)
		if t.Failed() {
			t.Fatalf("with the seed %d", seed)
		}
	}
}

// P0.7, W2: the same calls have the same answers.
func TestTwins(t *testing.T) {
	for seed := range 10 {
		var ends [2][]view
		for i := range ends {
			d := dice(seed)
			p := newPair(t, 4)
			for range 500 {
				p.brief = true
				p.random(&d, false)
			}
			for c := range len(p.links) + 1 {
				ends[i] = append(ends[i], look(p.n, c))
			}
		}
		if !slices.Equal(ends[0], ends[1]) {
			t.Errorf("seed %d: the same calls end otherwise", seed)
		}
	}
}
