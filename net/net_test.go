package net_test

import (
	"bytes"
	"math"
	"runtime"
	"slices"
	"strings"
	"sync"
	"testing"

	"usher/api"
	"usher/net"
)

const room = api.InRoom

// below are numbers below 0, above greater ones than any count here; among them those that would be others if they lost bits.
var (
	below = []int{-1, -2, -3, -64, -256, math.MinInt32, -1 << 32, 1 - 1<<32, math.MinInt + 1, math.MinInt}
	above = []int{256, 1 << 16, 1 << 20, math.MaxInt32, 1 << 31, 1 << 32, 1<<32 + 1, 1 << 48, math.MaxInt - 1, math.MaxInt}
)

// rows are texts as rows of bytes.
func rows(l ...string) [][]byte {
	var r [][]byte
	for _, s := range l {
		r = append(r, []byte(s))
	}
	return r
}

// text is n bytes that differ from their neighbours.
func text(n int) string {
	b := make([]byte, n)
	for i := range b {
		b[i] = byte(i*7 + i/256)
	}
	return string(b)
}

// view is all that can be asked of a connection.
type view struct {
	waits, open, broken bool
	peer                int
	read, write         bool // Ready
	reads, writes       int  // Marks
	got                 string
	ended               bool // no more will come
	taken               string
}

func look(n *net.Net, c int) view {
	s := n.State(c)
	v := view{waits: s.Waits, open: s.Open, broken: s.Broken, peer: s.Peer, taken: string(n.Taken(c))}
	v.read, v.write = n.Ready(c)
	v.reads, v.writes = n.Marks(c)
	got, ended := n.Got(c)
	v.got, v.ended = string(got), ended
	return v
}

func holdView(t *testing.T, n *net.Net, c int, want view) {
	t.Helper()
	if v := look(n, c); v != want {
		t.Errorf("connection %d is %.300v, not %.300v", c, v, want)
	}
}

func holdLen(t *testing.T, n *net.Net, waiting, open int) {
	t.Helper()
	if w, o := n.Len(); w != waiting || o != open {
		t.Errorf("Len = %d, %d, not %d, %d", w, o, waiting, open)
	}
}

func holdReady(t *testing.T, n *net.Net, c int, read, write bool) {
	t.Helper()
	if r, w := n.Ready(c); r != read || w != write {
		t.Errorf("Ready(%d) = %v, %v, not %v, %v", c, r, w, read, write)
	}
}

func holdMarks(t *testing.T, n *net.Net, c, read, write int) {
	t.Helper()
	if r, w := n.Marks(c); r != read || w != write {
		t.Errorf("Marks(%d) = %d, %d, not %d, %d", c, r, w, read, write)
	}
}

func holdGot(t *testing.T, n *net.Net, c int, want string, ended bool) {
	t.Helper()
	if b, e := n.Got(c); string(b) != want || e != ended {
		t.Errorf("Got(%d) = %.40q, %v, not %.40q, %v", c, b, e, want, ended)
	}
}

func holdTaken(t *testing.T, n *net.Net, c int, want string) {
	t.Helper()
	if b := n.Taken(c); string(b) != want {
		t.Errorf("Taken(%d) = %.40q, not %.40q", c, b, want)
	}
}

// holdNumber holds an answer that is a number, or an error and 0.
func holdNumber(t *testing.T, call string, n int, err api.Errno, want int, wantErr api.Errno) {
	t.Helper()
	if n != want || err != wantErr {
		t.Errorf("%s = %d, %v, not %d, %v", call, n, err, want, wantErr)
	}
}

func holdErr(t *testing.T, call string, err, want api.Errno) {
	t.Helper()
	if err != want {
		t.Errorf("%s = %v, not %v", call, err, want)
	}
}

func holdConnect(t *testing.T, n *net.Net, peer, want int, wantErr api.Errno) {
	t.Helper()
	c, err := n.Connect(peer)
	holdNumber(t, "Connect", c, err, want, wantErr)
}

func holdSend(t *testing.T, n *net.Net, c, want int, wantErr api.Errno, p ...[]byte) {
	t.Helper()
	some, err := n.Send(c, p...)
	holdNumber(t, "Send", some, err, want, wantErr)
}

func holdAccept(t *testing.T, n *net.Net, c, peer int, want api.Errno) {
	t.Helper()
	if x, p, err := n.Accept(); x != c || p != peer || err != want {
		t.Errorf("Accept = %d, %d, %v, not %d, %d, %v", x, p, err, c, peer, want)
	}
}

func holdRead(t *testing.T, n *net.Net, c, most int, want string, wantErr api.Errno) {
	t.Helper()
	if b, err := n.Read(c, most); string(b) != want || err != wantErr {
		t.Errorf("Read(%d, %d) = %.40q, %v, not %.40q, %v", c, most, b, err, want, wantErr)
	}
}

func holdWrite(t *testing.T, n *net.Net, c int, p string, want int, wantErr api.Errno) {
	t.Helper()
	some, err := n.Write(c, []byte(p))
	holdNumber(t, "Write", some, err, want, wantErr)
}

func holdClose(t *testing.T, n *net.Net, want int, c ...int) {
	t.Helper()
	if k := n.Close(c...); k != want {
		t.Errorf("Close(%v) = %d, not %d", c, k, want)
	}
}

func newNet(t *testing.T, backlog int) *net.Net {
	t.Helper()
	n, err := net.New(backlog)
	if n == nil || err != api.OK {
		t.Fatalf("New(%d) = %v, %v", backlog, n, err)
	}
	return n
}

// waiting is a Net with so many that wait: 0, 1, ..; connection c's peer is 10 more.
func waiting(t *testing.T, n int) *net.Net {
	t.Helper()
	x := newNet(t, api.MaxBacklog)
	for c := range n {
		holdConnect(t, x, 10+c, c, api.OK)
	}
	return x
}

// opened is likewise, but they are open.
func opened(t *testing.T, n int) *net.Net {
	t.Helper()
	x := waiting(t, n)
	for c := range n {
		holdAccept(t, x, c, 10+c, api.OK)
	}
	return x
}

// The chapter's example.
func TestExample(t *testing.T) {
	n := newNet(t, 1)
	holdConnect(t, n, 3, 0, api.OK)
	holdSend(t, n, 0, 2, api.OK, []byte("ab"))
	holdAccept(t, n, 0, 3, api.OK)
	holdRead(t, n, 0, 9, "ab", api.OK)
	holdRead(t, n, 0, 9, "", api.ErrAgain)
	holdErr(t, "Half", n.Half(0), api.OK)
	holdRead(t, n, 0, 9, "", api.OK)
}

// P7.1: New of each backlog from 1 to MaxBacklog, and of none else; just so many may wait.
func TestNew(t *testing.T) {
	for _, backlog := range slices.Concat(below, above, []int{0, api.MaxBacklog + 1, api.MaxBacklog + 2}) {
		if n, err := net.New(backlog); n != nil || err != api.ErrArg {
			t.Errorf("New(%d) = %v, %v, not nil, ErrArg", backlog, n, err)
		}
	}
	for backlog := 1; backlog <= api.MaxBacklog; backlog++ {
		n := newNet(t, backlog)
		holdLen(t, n, 0, 0)
		holdView(t, n, 0, view{})
		holdReady(t, n, -1, false, false)
		holdMarks(t, n, -1, 0, 0)
		holdAccept(t, n, 0, 0, api.ErrNone)
		for c := range backlog {
			holdConnect(t, n, 7, c, api.OK)
			holdLen(t, n, c+1, 0)
		}
		holdConnect(t, n, 7, 0, api.ErrFull)
		holdLen(t, n, backlog, 0)
		holdMarks(t, n, -1, backlog, 0)
	}
}

// P7.1, P7.6: Connect of each peer, and of none else; a peer is told as it came, and may come as often as it likes.
func TestPeers(t *testing.T) {
	n := newNet(t, 1)
	for i := range 512 {
		peer := i % 256
		for _, no := range slices.Concat(below, above) {
			holdConnect(t, n, no, 0, api.ErrArg)
		}
		holdConnect(t, n, peer, i, api.OK)
		holdView(t, n, i, view{waits: true, peer: peer})
		holdView(t, n, i+1, view{})
		holdMarks(t, n, -1, i+1, 0)
		holdAccept(t, n, i, peer, api.OK)
		holdView(t, n, i, view{open: true, peer: peer})
		holdLen(t, n, 0, i+1)
	}
}

// P7.1: who Connects waits, till somebody takes it or the listener stops; one that is broken waits too, and a failed
// Accept makes no room. A Connect that is refused takes no number.
func TestFull(t *testing.T) {
	n := newNet(t, 2)
	full := func() {
		t.Helper()
		for range 2 {
			holdConnect(t, n, 1, 0, api.ErrFull)
			holdConnect(t, n, 256, 0, api.ErrArg)
			holdConnect(t, n, -1, 0, api.ErrArg)
		}
	}
	holdConnect(t, n, 1, 0, api.OK)
	holdConnect(t, n, 2, 1, api.OK)
	full()
	holdErr(t, "Reset", n.Reset(0), api.OK)
	holdErr(t, "Half", n.Half(1), api.OK)
	full()
	holdClose(t, n, 0, 0, 1)
	n.Inject(1)
	holdAccept(t, n, 0, 0, api.ErrAccept)
	full()
	holdLen(t, n, 2, 0)
	holdAccept(t, n, 0, 1, api.OK)
	holdConnect(t, n, 3, 2, api.OK)
	full()
	holdClose(t, n, 1, 0)
	full()
	holdAccept(t, n, 1, 2, api.OK)
	holdAccept(t, n, 2, 3, api.OK)
	holdConnect(t, n, 4, 3, api.OK)
	holdConnect(t, n, 5, 4, api.OK)
	full()
	holdMarks(t, n, -1, 5, 0)
}

// P7.1: MaxConn connections in all, whether they are open or no more; then ErrFull though nobody waits, and behind Stop
// ErrClosed ahead of it.
func TestMaxConn(t *testing.T) {
	n := newNet(t, api.MaxBacklog)
	for c := range api.MaxConn {
		holdConnect(t, n, c%256, c, api.OK)
		if c%api.MaxBacklog == 3 || c == api.MaxConn-1 {
			for w, _ := n.Len(); w > 0; w-- {
				n.Accept()
			}
		}
		if c%3 == 0 {
			n.Close(c - 300)
		}
	}
	last := api.MaxConn - 1
	holdView(t, n, last, view{open: true, peer: last % 256})
	for range 2 {
		holdConnect(t, n, 0, 0, api.ErrFull)
		holdConnect(t, n, 256, 0, api.ErrArg)
		holdAccept(t, n, 0, 0, api.ErrNone)
		holdView(t, n, last+1, view{})
		holdMarks(t, n, -1, api.MaxConn, 0)
	}
	for c := range api.MaxConn {
		n.Close(c)
	}
	holdLen(t, n, 0, 0)
	holdConnect(t, n, 0, 0, api.ErrFull)
	n.Stop()
	holdConnect(t, n, 0, 0, api.ErrClosed)
	holdConnect(t, n, -1, 0, api.ErrArg)
}

// P7.1: the last ones up to MaxConn may wait, too.
func TestMaxConnWaits(t *testing.T) {
	n := newNet(t, 3)
	for c := range api.MaxConn - 2 {
		holdConnect(t, n, 9, c, api.OK)
		holdAccept(t, n, c, 9, api.OK)
	}
	holdConnect(t, n, 9, api.MaxConn-2, api.OK)
	holdConnect(t, n, 9, api.MaxConn-1, api.OK)
	holdConnect(t, n, 9, 0, api.ErrFull)
	holdLen(t, n, 2, api.MaxConn-2)
	holdAccept(t, n, api.MaxConn-2, 9, api.OK)
	holdConnect(t, n, 9, 0, api.ErrFull)
	holdAccept(t, n, api.MaxConn-1, 9, api.OK)
	holdConnect(t, n, 9, 0, api.ErrFull)
}

// P7.1, W4: ErrArg, then ErrClosed, then ErrFull.
func TestConnectErrors(t *testing.T) {
	n := newNet(t, 1)
	holdConnect(t, n, 5, 0, api.OK)
	holdConnect(t, n, 5, 0, api.ErrFull)
	holdConnect(t, n, 256, 0, api.ErrArg)
	n.Stop()
	holdConnect(t, n, 5, 0, api.ErrClosed)
	holdConnect(t, n, 256, 0, api.ErrArg)
	holdConnect(t, n, -1, 0, api.ErrArg)
	holdMarks(t, n, -1, 1, 0)
	holdView(t, n, 1, view{})
	empty := newNet(t, 1)
	empty.Stop()
	holdConnect(t, empty, 0, 0, api.ErrClosed)
	holdConnect(t, empty, 256, 0, api.ErrArg)
	holdLen(t, empty, 0, 0)
}

// standing is how connection 1 of a Net came to stand, and which error it has for either side because of that.
type standing struct {
	steps        string // b: bytes come and a window; a Accept, h Half, r Reset, s Shut, c Close, x Stop
	theirs, ours api.Errno
}

var standings = []standing{
	{"", api.OK, api.ErrNone},
	{"b", api.OK, api.ErrNone},
	{"h", api.OK, api.ErrNone},
	{"bh", api.OK, api.ErrNone},
	{"r", api.ErrReset, api.ErrNone},
	{"hr", api.ErrReset, api.ErrNone},
	{"bhr", api.ErrReset, api.ErrNone},
	{"x", api.ErrReset, api.ErrClosed},
	{"bhx", api.ErrReset, api.ErrClosed},
	{"rx", api.ErrReset, api.ErrClosed},
	{"bhrx", api.ErrReset, api.ErrClosed},
	{"a", api.OK, api.OK},
	{"ba", api.OK, api.OK},
	{"ah", api.OK, api.OK},
	{"ha", api.OK, api.OK},
	{"bah", api.OK, api.OK},
	{"as", api.OK, api.OK},
	{"bas", api.OK, api.OK},
	{"ahs", api.OK, api.OK},
	{"bhas", api.OK, api.OK},
	{"ax", api.OK, api.OK},
	{"bahx", api.OK, api.OK},
	{"basx", api.OK, api.OK},
	{"ar", api.ErrReset, api.ErrReset},
	{"ra", api.ErrReset, api.ErrReset},
	{"bar", api.ErrReset, api.ErrReset},
	{"bra", api.ErrReset, api.ErrReset},
	{"ahr", api.ErrReset, api.ErrReset},
	{"asr", api.ErrReset, api.ErrReset},
	{"bhasr", api.ErrReset, api.ErrReset},
	{"arx", api.ErrReset, api.ErrReset},
	{"ac", api.ErrClosed, api.ErrClosed},
	{"bac", api.ErrClosed, api.ErrClosed},
	{"ahc", api.ErrClosed, api.ErrClosed},
	{"asc", api.ErrClosed, api.ErrClosed},
	{"bhasc", api.ErrClosed, api.ErrClosed},
	{"acx", api.ErrClosed, api.ErrClosed},
	{"arc", api.ErrReset, api.ErrClosed},
	{"rac", api.ErrReset, api.ErrClosed},
	{"ahrc", api.ErrReset, api.ErrClosed},
	{"bhasrcx", api.ErrReset, api.ErrClosed},
}

func (s standing) has(step string) bool { return strings.Contains(s.steps, step) }

// alive is that it has what b brought.
func (s standing) alive() bool { return s.has("b") && s.ours == api.OK }

// build is a Net whose connection 1 stands so, between two others; 0 is open and has bytes and a window, too.
func (s standing) build(t *testing.T) *net.Net {
	t.Helper()
	n := waiting(t, 3)
	holdAccept(t, n, 0, 10, api.OK)
	holdSend(t, n, 0, 4, api.OK, []byte("0123"))
	holdErr(t, "Open", n.Open(0, 4), api.OK)
	for _, step := range s.steps {
		switch step {
		case 'b':
			holdSend(t, n, 1, 3, api.OK, []byte("abc"))
			holdErr(t, "Open", n.Open(1, 2), api.OK)
		case 'a':
			holdAccept(t, n, 1, 11, api.OK)
		case 'h':
			holdErr(t, "Half", n.Half(1), api.OK)
		case 'r':
			holdErr(t, "Reset", n.Reset(1), api.OK)
		case 's':
			holdErr(t, "Shut", n.Shut(1), api.OK)
		case 'c':
			holdClose(t, n, 1, 1)
		case 'x':
			n.Stop()
		}
	}
	return n
}

// all is what can be asked of a Net with three connections.
func all(n *net.Net) (l [5]view, waits, open int) {
	for i := range l {
		l[i] = look(n, i-1)
	}
	waits, open = n.Len()
	return l, waits, open
}

// unchanged holds that a call changed nothing of what can be asked.
func (s standing) unchanged(t *testing.T, n *net.Net, name string, call func()) {
	t.Helper()
	before, waits, open := all(n)
	call()
	if after, w, o := all(n); after != before || w != waits || o != open {
		t.Errorf("behind %q %s changed %v into %v", s.steps, name, before, after)
	}
}

// refused holds that a call on connection 1 errs, with nothing else, and that it changes nothing: behind it all calls
// answer what they would have answered.
func (s standing) refused(t *testing.T, name string, want api.Errno, call func(n *net.Net) (int, api.Errno)) {
	t.Helper()
	n := s.build(t)
	for range 2 {
		s.unchanged(t, n, name, func() {
			t.Helper()
			k, err := call(n)
			holdNumber(t, "behind "+s.steps+": "+name, k, err, 0, want)
		})
	}
	if !s.alive() {
		return
	}
	holdRead(t, n, 1, 9, "abc", api.OK)
	if !s.has("s") {
		holdWrite(t, n, 1, "xyz", 2, api.OK)
	}
}

// P7.2, W3, W4: each call of somebody's side, however a connection stands: its first error, or it does what it says.
func TestTheirErrors(t *testing.T) {
	for _, s := range standings {
		send := s.theirs
		if send == api.OK && s.has("h") {
			send = api.ErrClosed
		}
		for name, p := range map[string][][]byte{"Send": rows("x", "y"), "Send of nothing": nil, "Send of an empty row": rows("")} {
			if send != api.OK {
				s.refused(t, name, send, func(n *net.Net) (int, api.Errno) { return n.Send(1, p...) })
			} else {
				holdSend(t, s.build(t), 1, len(slices.Concat(p...)), api.OK, p...)
			}
		}
		for _, bytes := range below {
			s.refused(t, "Open below 0", api.ErrArg, func(n *net.Net) (int, api.Errno) { return 0, n.Open(1, bytes) })
		}
		for name, call := range map[string]func(n *net.Net) api.Errno{
			"Half":   func(n *net.Net) api.Errno { return n.Half(1) },
			"Reset":  func(n *net.Net) api.Errno { return n.Reset(1) },
			"Open 0": func(n *net.Net) api.Errno { return n.Open(1, 0) },
			"Open 1": func(n *net.Net) api.Errno { return n.Open(1, 1) },
		} {
			if s.theirs != api.OK {
				s.refused(t, name, s.theirs, func(n *net.Net) (int, api.Errno) { return 0, call(n) })
			} else {
				holdErr(t, "behind "+s.steps+": "+name, call(s.build(t)), api.OK)
			}
		}
	}
}

// P7.4, W3, W4: each call of the server's side likewise.
func TestOurErrors(t *testing.T) {
	for _, s := range standings {
		for _, most := range append(below, 0) {
			s.refused(t, "Read below 1", api.ErrArg, func(n *net.Net) (int, api.Errno) {
				b, err := n.Read(1, most)
				return len(b), err
			})
		}
		read, write, none := s.ours, s.ours, s.ours
		if s.ours == api.OK && s.has("s") {
			write, none = api.ErrClosed, api.ErrClosed
		} else if s.ours == api.OK && !s.has("b") {
			write = api.ErrAgain
		}
		if s.ours == api.OK && !s.has("b") && !s.has("h") {
			read = api.ErrAgain
		}
		if !s.alive() {
			s.refused(t, "Read", read, func(n *net.Net) (int, api.Errno) {
				b, err := n.Read(1, 9)
				return len(b), err
			})
		}
		if write != api.OK {
			s.refused(t, "Write", write, func(n *net.Net) (int, api.Errno) { return n.Write(1, []byte("xyz")) })
		}
		s.refused(t, "Write of nothing", none, func(n *net.Net) (int, api.Errno) { return n.Write(1, nil) })
		s.refused(t, "Write of an empty row", none, func(n *net.Net) (int, api.Errno) { return n.Write(1, []byte{}) })
		if s.ours != api.OK {
			s.refused(t, "Shut", s.ours, func(n *net.Net) (int, api.Errno) { return 0, n.Shut(1) })
		} else {
			holdErr(t, "behind "+s.steps+": Shut", s.build(t).Shut(1), api.OK)
		}
	}
}

// P7.4: Close ends those that are open, broken ones too, and no others.
func TestCloseHoweverItStands(t *testing.T) {
	for _, s := range standings {
		n := s.build(t)
		v := look(n, 1)
		if v.open != (s.has("a") && !s.has("c")) {
			t.Errorf("behind %q: open is %v", s.steps, v.open)
		}
		if !v.open {
			s.refused(t, "Close", api.OK, func(n *net.Net) (int, api.Errno) { return n.Close(1, 1), api.OK })
			continue
		}
		_, _, open := all(n)
		holdClose(t, n, 1, 1)
		v.open, v.read, v.write, v.ended = false, false, false, true
		holdView(t, n, 1, v)
		s.unchanged(t, n, "a second Close", func() { holdClose(t, n, 0, 1) })
		if _, o := n.Len(); o != open-1 {
			t.Errorf("behind %q: %d are open, not %d", s.steps, o, open-1)
		}
	}
}

// P7.2, P7.4, P7.6: numbers that are no connection, below 0 and from the first one on that is too many.
func TestNoConnection(t *testing.T) {
	s := standing{"ba", api.OK, api.OK}
	for _, c := range slices.Concat(below, above, []int{3, 4}) {
		none := func(name string, want api.Errno, call func(n *net.Net) (int, api.Errno)) {
			t.Helper()
			s.refused(t, name, want, call)
		}
		none("Send", api.ErrNone, func(n *net.Net) (int, api.Errno) { return n.Send(c, []byte("x")) })
		none("Send", api.ErrNone, func(n *net.Net) (int, api.Errno) { return n.Send(c) })
		none("Half", api.ErrNone, func(n *net.Net) (int, api.Errno) { return 0, n.Half(c) })
		none("Reset", api.ErrNone, func(n *net.Net) (int, api.Errno) { return 0, n.Reset(c) })
		none("Open", api.ErrNone, func(n *net.Net) (int, api.Errno) { return 0, n.Open(c, 1) })
		none("Open", api.ErrNone, func(n *net.Net) (int, api.Errno) { return 0, n.Open(c, 0) })
		none("Open", api.ErrArg, func(n *net.Net) (int, api.Errno) { return 0, n.Open(c, -1) })
		none("Write", api.ErrNone, func(n *net.Net) (int, api.Errno) { return n.Write(c, []byte("x")) })
		none("Write", api.ErrNone, func(n *net.Net) (int, api.Errno) { return n.Write(c, nil) })
		none("Shut", api.ErrNone, func(n *net.Net) (int, api.Errno) { return 0, n.Shut(c) })
		none("Close", api.OK, func(n *net.Net) (int, api.Errno) { return n.Close(c, c), api.OK })
		for most, want := range map[int]api.Errno{-1: api.ErrArg, 0: api.ErrArg, 1: api.ErrNone, 9: api.ErrNone} {
			none("Read", want, func(n *net.Net) (int, api.Errno) {
				b, err := n.Read(c, most)
				return len(b), err
			})
		}
		n := s.build(t)
		if c != -1 {
			holdView(t, n, c, view{})
		} else {
			holdView(t, n, c, view{read: true, reads: 3}) // the listener
		}
		holdView(t, newNet(t, 1), c, view{})
	}
}

// P7.2: Send of whatever rows, to whatever room: as many bytes as there is room, of the rows one behind the other.
func TestSend(t *testing.T) {
	for _, c := range []struct {
		ahead int // bytes that were sent already
		rows  [][]byte
		want  int
	}{
		{0, nil, 0},
		{0, [][]byte{}, 0},
		{0, [][]byte{nil}, 0},
		{0, [][]byte{nil, {}, nil}, 0},
		{0, rows("a"), 1},
		{0, rows("abc"), 3},
		{0, rows("ab", "c"), 3},
		{0, rows("", "a", "", "", "bc", ""), 3},
		{0, rows("a", "a", "a"), 3},
		{0, rows("\x00", "\xff\r\n"), 4},
		{0, rows(text(room - 1)), room - 1},
		{0, rows(text(room)), room},
		{0, rows(text(room + 1)), room},
		{0, rows(text(5 * room)), room},
		{0, rows(text(room), "a"), room},
		{0, rows(text(room-1), "a", "b"), room},
		{0, rows(text(room-1), "ab", "c"), room},
		{0, rows(text(room/2), text(room/2), "c"), room},
		{0, rows("a", text(room), "b"), room},
		{1, rows(text(room)), room - 1},
		{room - 3, rows("ab"), 2},
		{room - 3, rows("abc"), 3},
		{room - 3, rows("abcd"), 3},
		{room - 3, rows("a", "bcd", "e"), 3},
		{room - 3, rows("a", "bc", "d"), 3},
		{room - 3, rows("a", "", "b"), 2},
		{room - 1, rows("", "a"), 1},
		{room, nil, 0},
		{room, rows(""), 0},
		{room, rows("a"), 0},
		{room, rows("a", "b"), 0},
	} {
		for _, n := range []*net.Net{waiting(t, 1), opened(t, 1)} {
			ahead, marks := text(c.ahead), 0
			if c.ahead > 0 {
				holdSend(t, n, 0, c.ahead, api.OK, []byte(ahead))
				marks++
			}
			holdSend(t, n, 0, c.want, api.OK, c.rows...)
			if c.want > 0 {
				marks++
			}
			holdMarks(t, n, 0, marks, 0)
			n.Accept()
			holdReady(t, n, 0, c.ahead+c.want > 0, false)
			if want := ahead + string(slices.Concat(c.rows...))[:c.want]; want != "" {
				holdRead(t, n, 0, 2*room, want, api.OK)
			}
			holdRead(t, n, 0, 2*room, "", api.ErrAgain)
		}
	}
}

// P7.2: what was read leaves as much room, no more and no less.
func TestRoomBehindRead(t *testing.T) {
	n := opened(t, 1)
	all := text(room)
	taken := 0
	holdSend(t, n, 0, room, api.OK, []byte(all))
	for most := 1; most < 70; most++ {
		holdSend(t, n, 0, 0, api.OK, rows("x", "y")...)
		holdRead(t, n, 0, most, all[taken:taken+most], api.OK)
		taken += most
		holdTaken(t, n, 0, all[:taken])
		holdSend(t, n, 0, most, api.OK, []byte(text(room+2)))
		all += text(room + 2)[:most]
	}
}

// P7.2, P7.6: Half, of one that waits and of an open one: no more may be sent, what was sent is read, and then comes
// nothing; once or twice, but it's marked once.
func TestHalf(t *testing.T) {
	for _, n := range []*net.Net{waiting(t, 1), opened(t, 1)} {
		holdSend(t, n, 0, 3, api.OK, []byte("abc"))
		for range 3 {
			holdErr(t, "Half", n.Half(0), api.OK)
			holdMarks(t, n, 0, 2, 0)
			holdSend(t, n, 0, 0, api.ErrClosed, []byte("d"))
			holdSend(t, n, 0, 0, api.ErrClosed)
		}
		holdErr(t, "Open", n.Open(0, 5), api.OK)
		n.Accept()
		holdReady(t, n, 0, true, true)
		holdRead(t, n, 0, 2, "ab", api.OK)
		holdReady(t, n, 0, true, true)
		holdRead(t, n, 0, 2, "c", api.OK)
		for range 3 {
			holdReady(t, n, 0, true, true)
			holdRead(t, n, 0, 2, "", api.OK)
			holdErr(t, "Half", n.Half(0), api.OK)
		}
		holdWrite(t, n, 0, "xyz", 3, api.OK)
		holdView(t, n, 0, view{open: true, peer: 10, read: true, write: true, reads: 2, writes: 1, got: "xyz", taken: "abc"})
		holdErr(t, "Reset", n.Reset(0), api.OK)
		holdView(t, n, 0, view{open: true, broken: true, peer: 10, read: true, write: true, reads: 3, writes: 2, got: "xyz", ended: true, taken: "abc"})
	}
}

// P7.2, P7.6: Reset of one that waits, with bytes that were not read and a window: it waits on, and whoever takes it
// finds nothing. A second Reset is an error, and not marked.
func TestResetOfOneThatWaits(t *testing.T) {
	n := waiting(t, 3)
	holdSend(t, n, 1, 3, api.OK, []byte("abc"))
	holdErr(t, "Open", n.Open(1, 5), api.OK)
	holdErr(t, "Reset", n.Reset(1), api.OK)
	want := view{waits: true, broken: true, peer: 11, reads: 2, writes: 2, ended: true}
	for range 2 {
		holdView(t, n, 1, want)
		holdErr(t, "Reset", n.Reset(1), api.ErrReset)
	}
	holdView(t, n, 0, view{waits: true, peer: 10})
	holdLen(t, n, 3, 0)
	holdAccept(t, n, 0, 10, api.OK)
	holdAccept(t, n, 1, 11, api.OK)
	holdLen(t, n, 1, 2)
	want.waits, want.open, want.read, want.write = false, true, true, true
	holdView(t, n, 1, want)
	holdRead(t, n, 1, 9, "", api.ErrReset)
	holdWrite(t, n, 1, "x", 0, api.ErrReset)
	holdErr(t, "Shut", n.Shut(1), api.ErrReset)
	holdClose(t, n, 1, 1)
	want.open, want.read, want.write = false, false, false
	holdView(t, n, 1, want)
	holdAccept(t, n, 2, 12, api.OK)
	holdLen(t, n, 0, 2)
}

// P7.2, P7.6: Reset of an open one: what was read and written stays, what was not read and the window are no more.
func TestReset(t *testing.T) {
	n := opened(t, 2)
	holdSend(t, n, 0, 5, api.OK, []byte("abcde"))
	holdErr(t, "Open", n.Open(0, 5), api.OK)
	holdRead(t, n, 0, 2, "ab", api.OK)
	holdWrite(t, n, 0, "xyz", 3, api.OK)
	want := view{open: true, peer: 10, read: true, write: true, reads: 1, writes: 1, got: "xyz", taken: "ab"}
	holdView(t, n, 0, want)
	holdErr(t, "Reset", n.Reset(0), api.OK)
	want.broken, want.reads, want.writes, want.ended = true, 2, 2, true
	for range 2 {
		holdView(t, n, 0, want)
		holdErr(t, "Reset", n.Reset(0), api.ErrReset)
		holdErr(t, "Half", n.Half(0), api.ErrReset)
		holdErr(t, "Open", n.Open(0, 5), api.ErrReset)
		holdSend(t, n, 0, 0, api.ErrReset, []byte("x"))
		holdRead(t, n, 0, 9, "", api.ErrReset)
		holdWrite(t, n, 0, "x", 0, api.ErrReset)
		holdWrite(t, n, 0, "", 0, api.ErrReset)
		holdErr(t, "Shut", n.Shut(0), api.ErrReset)
	}
	holdLen(t, n, 0, 2)
	holdView(t, n, 1, view{open: true, peer: 11})
	holdClose(t, n, 1, 0)
	want.open, want.read, want.write = false, false, false
	holdView(t, n, 0, want)
	holdLen(t, n, 0, 1)
}

// P7.4, W4: who is broken and shut has ErrReset for a Write, as that is named ahead.
func TestWriteToBrokenAndShut(t *testing.T) {
	n := opened(t, 1)
	holdErr(t, "Open", n.Open(0, 5), api.OK)
	holdErr(t, "Shut", n.Shut(0), api.OK)
	holdErr(t, "Reset", n.Reset(0), api.OK)
	for _, p := range []string{"", "x"} {
		holdWrite(t, n, 0, p, 0, api.ErrReset)
	}
	holdReady(t, n, 0, true, true)
	holdClose(t, n, 1, 0)
	for _, p := range []string{"", "x"} {
		holdWrite(t, n, 0, p, 0, api.ErrClosed)
	}
}

// P7.2, P7.6: the window grows by what it is Opened by, in one call or several; an Open by 0 is none, nor marked.
func TestOpen(t *testing.T) {
	for _, c := range []struct {
		opens []int
		want  int
		marks int
	}{
		{nil, 0, 0},
		{[]int{0}, 0, 0},
		{[]int{0, 0}, 0, 0},
		{[]int{1}, 1, 1},
		{[]int{0, 1, 0}, 1, 1},
		{[]int{1, 1}, 2, 2},
		{[]int{2, 3}, 5, 2},
		{[]int{9}, 9, 1},
		{[]int{-1, 2, -1}, 2, 1},
		{[]int{3, math.MinInt}, 3, 1},
		{[]int{room, 1}, room + 1, 2},
	} {
		for _, n := range []*net.Net{waiting(t, 1), opened(t, 1)} {
			for _, bytes := range c.opens {
				want := api.OK
				if bytes < 0 {
					want = api.ErrArg
				}
				holdErr(t, "Open", n.Open(0, bytes), want)
			}
			n.Accept()
			holdView(t, n, 0, view{open: true, peer: 10, write: c.want > 0, writes: c.marks})
			all := text(2 * room)
			if c.want > 0 {
				holdWrite(t, n, 0, all, c.want, api.OK)
			}
			holdWrite(t, n, 0, "x", 0, api.ErrAgain)
			holdView(t, n, 0, view{open: true, peer: 10, writes: c.marks, got: all[:c.want]})
		}
	}
}

// P7.2, W10: up to 2^40, and with Opens above it that would wrap round, the window stays one; each is marked.
func TestOpenFar(t *testing.T) {
	for _, opens := range [][]int{
		{1 << 40}, {1<<40 - 1}, {1<<40 + 1}, {1 << 39, 1 << 39}, {1 << 40, 1}, {1 << 40, 1 << 40}, {1<<40 - 1, 1, 1},
		{1 << 32}, {1 << 31, 1 << 31}, {1 << 62, 1 << 62}, {1 << 62, 1 << 62, 1 << 62, 1 << 62},
		{math.MaxInt}, {math.MaxInt, 1}, {math.MaxInt, math.MaxInt}, {1, math.MaxInt}, {math.MaxInt, math.MaxInt, 2}, {5, math.MaxInt - 5, 7},
	} {
		n := opened(t, 1)
		for _, bytes := range opens {
			holdErr(t, "Open", n.Open(0, bytes), api.OK)
			holdReady(t, n, 0, false, true)
		}
		want := text(3 * room)
		holdWrite(t, n, 0, want, len(want), api.OK)
		holdErr(t, "Open", n.Open(0, 0), api.OK)
		holdView(t, n, 0, view{open: true, peer: 10, write: true, writes: len(opens), got: want})
		holdErr(t, "Open", n.Open(0, math.MaxInt), api.OK)
		holdWrite(t, n, 0, "x", 1, api.OK)
	}
}

// P7.2, W10: nor does the window wrap round by any count of Opens.
func TestOpenOften(t *testing.T) {
	for _, bytes := range []int{1 << 40, math.MaxInt} {
		n := opened(t, 1)
		for i := range 1<<23 + 2 {
			if err := n.Open(0, bytes); err != api.OK {
				t.Fatalf("Open %d = %v", i, err)
			}
			if _, write := n.Ready(0); !write {
				t.Fatalf("behind %d Opens by %d there is no window", i+1, bytes)
			}
		}
		holdMarks(t, n, 0, 0, 1<<23+2)
		holdWrite(t, n, 0, "abc", 3, api.OK)
	}
}

// P7.3: just so many Accepts fail as were Injected last, and they take nobody.
func TestInject(t *testing.T) {
	for _, c := range []struct {
		injects []int
		want    int
	}{
		{nil, 0},
		{[]int{0}, 0},
		{[]int{-1}, 0},
		{[]int{math.MinInt}, 0},
		{[]int{1}, 1},
		{[]int{5}, 5},
		{[]int{3, 2}, 2},
		{[]int{2, 3}, 3},
		{[]int{3, 0}, 0},
		{[]int{3, -4}, 0},
		{[]int{-4, 3}, 3},
		{[]int{1, 1, 1}, 1},
	} {
		n := waiting(t, 2)
		for _, k := range c.injects {
			n.Inject(k)
		}
		for range c.want {
			holdReady(t, n, -1, true, false)
			holdAccept(t, n, 0, 0, api.ErrAccept)
			holdLen(t, n, 2, 0)
			holdView(t, n, 0, view{waits: true, peer: 10})
			holdMarks(t, n, -1, 2, 0)
		}
		holdAccept(t, n, 0, 10, api.OK)
		holdAccept(t, n, 1, 11, api.OK)
		holdAccept(t, n, 0, 0, api.ErrNone)
	}
	for _, k := range above {
		n := waiting(t, 1)
		n.Inject(k)
		for range 50 {
			holdAccept(t, n, 0, 0, api.ErrAccept)
		}
		n.Inject(0)
		holdAccept(t, n, 0, 10, api.OK)
	}
}

// P7.3: a second Inject ahead of the first one's end: what was left is no more.
func TestInjectAnew(t *testing.T) {
	for k := range 6 {
		n := waiting(t, 1)
		n.Inject(4)
		holdAccept(t, n, 0, 0, api.ErrAccept)
		holdAccept(t, n, 0, 0, api.ErrAccept)
		n.Inject(k)
		for range k {
			holdAccept(t, n, 0, 0, api.ErrAccept)
		}
		holdAccept(t, n, 0, 10, api.OK)
	}
}

// P7.3, W4: an Accept that would take nobody does not fail by an Inject, nor uses it up.
func TestAcceptOfNobody(t *testing.T) {
	n := newNet(t, 3)
	n.Inject(2)
	for range 5 {
		holdAccept(t, n, 0, 0, api.ErrNone)
	}
	holdConnect(t, n, 9, 0, api.OK)
	holdAccept(t, n, 0, 0, api.ErrAccept)
	holdAccept(t, n, 0, 0, api.ErrAccept)
	holdAccept(t, n, 0, 9, api.OK)
	n.Inject(3)
	holdAccept(t, n, 0, 0, api.ErrNone)
	holdConnect(t, n, 8, 1, api.OK)
	holdAccept(t, n, 0, 0, api.ErrAccept)
	n.Stop()
	for range 3 {
		holdAccept(t, n, 0, 0, api.ErrClosed)
	}
	n.Inject(1)
	holdAccept(t, n, 0, 0, api.ErrClosed)
	holdLen(t, n, 0, 1)
}

// P7.3: who waits longest is taken first, whatever came and went between.
func TestAcceptInOrder(t *testing.T) {
	n := newNet(t, 4)
	next, taken := 0, 0
	for i := range 200 {
		for range i % 5 {
			if w, _ := n.Len(); w == 4 {
				break
			}
			holdConnect(t, n, next%251, next, api.OK)
			if next%3 == 1 {
				holdErr(t, "Reset", n.Reset(next), api.OK)
			}
			next++
		}
		for range (i + 2) % 4 {
			if taken == next {
				holdAccept(t, n, 0, 0, api.ErrNone)
				break
			}
			holdReady(t, n, -1, true, false)
			holdAccept(t, n, taken, taken%251, api.OK)
			holdView(t, n, taken, view{open: true, peer: taken % 251, broken: taken%3 == 1, read: taken%3 == 1, write: taken%3 == 1,
				ended: taken%3 == 1, reads: taken % 3 % 2, writes: taken % 3 % 2})
			taken++
		}
		holdLen(t, n, next-taken, taken)
		holdReady(t, n, -1, taken < next, false)
	}
}

// P7.4: Read of at most so many bytes, of so many.
func TestRead(t *testing.T) {
	for _, size := range []int{1, 2, 3, 100, room - 1, room} {
		for _, most := range slices.Concat(above, []int{1, 2, 3, 99, 100, 101, room - 2, room - 1, room, room + 1}) {
			n := opened(t, 1)
			all := text(size)
			holdSend(t, n, 0, size, api.OK, []byte(all))
			for _, no := range append(below, 0) {
				holdRead(t, n, 0, no, "", api.ErrArg)
			}
			first := min(most, size)
			holdRead(t, n, 0, most, all[:first], api.OK)
			holdView(t, n, 0, view{open: true, peer: 10, read: first < size, reads: 1, taken: all[:first]})
			second := min(most, size-first)
			if second > 0 {
				holdRead(t, n, 0, most, all[first:first+second], api.OK)
			} else {
				holdRead(t, n, 0, most, "", api.ErrAgain)
			}
			holdTaken(t, n, 0, all[:first+second])
			holdMarks(t, n, 0, 1, 0)
		}
	}
}

// P7.4: Write of nothing, and of less than the window, just as much and more.
func TestWrite(t *testing.T) {
	for _, window := range []int{0, 1, 2, 3, 100, 1024, 5000} {
		for _, size := range []int{0, 1, 2, 3, 4, 99, 100, 101, 1025, 6000} {
			n := opened(t, 2)
			holdErr(t, "Open", n.Open(0, window), api.OK)
			marks := min(window, 1)
			all := text(size)
			want := api.OK
			if size > 0 && window == 0 {
				want = api.ErrAgain
			}
			some := min(size, window)
			holdWrite(t, n, 0, all, some, want)
			holdView(t, n, 0, view{open: true, peer: 10, write: some < window, writes: marks, got: all[:some]})
			if some < window {
				holdWrite(t, n, 0, text(6000), window-some, api.OK)
			}
			holdWrite(t, n, 0, "x", 0, api.ErrAgain)
			holdWrite(t, n, 0, "", 0, api.OK)
			holdGot(t, n, 0, all[:some]+text(6000)[:window-some], false)
			holdMarks(t, n, 0, 0, marks)
			holdView(t, n, 1, view{open: true, peer: 11})
		}
	}
}

// P7.4, P7.5: Shut, once or twice: nothing more is written, but somebody may still send and Open.
func TestShut(t *testing.T) {
	n := opened(t, 2)
	holdErr(t, "Open", n.Open(0, 5), api.OK)
	holdWrite(t, n, 0, "ab", 2, api.OK)
	for i := range 3 {
		holdErr(t, "Shut", n.Shut(0), api.OK)
		holdView(t, n, 0, view{open: true, peer: 10, reads: i, writes: 1 + i, got: "ab", ended: true, taken: text(i)})
		holdWrite(t, n, 0, "c", 0, api.ErrClosed)
		holdWrite(t, n, 0, "", 0, api.ErrClosed)
		holdErr(t, "Open", n.Open(0, 5), api.OK)
		holdSend(t, n, 0, 1, api.OK, []byte(text(i + 1)[i:]))
		holdReady(t, n, 0, true, false)
		holdRead(t, n, 0, 1, text(i + 1)[i:], api.OK)
	}
	holdErr(t, "Half", n.Half(0), api.OK)
	holdReady(t, n, 0, true, false)
	holdView(t, n, 1, view{open: true, peer: 11})
	holdLen(t, n, 0, 2)
}

// P7.4: Close of none, of several, of one twice, of some that wait, are none, are broken or closed: how many were open.
func TestClose(t *testing.T) {
	for _, c := range []struct {
		close []int
		ended []int
	}{
		{nil, nil},
		{[]int{}, nil},
		{[]int{0}, []int{0}},
		{[]int{1}, []int{1}}, // broken
		{[]int{2}, nil},      // closed
		{[]int{4}, []int{4}}, // halved and shut
		{[]int{5}, nil},      // waits
		{[]int{6}, nil},      // waits and is broken
		{[]int{-1, 7, 99, math.MinInt, math.MaxInt, 1 << 32}, nil},
		{[]int{0, 0}, []int{0}},
		{[]int{1, 0, 1, 0, 1}, []int{0, 1}},
		{[]int{4, 3, 2, 1, 0}, []int{0, 1, 3, 4}},
		{[]int{-1, 0, 7, 3, 5}, []int{0, 3}},
		{[]int{0, 1, 2, 3, 4, 5, 6, 7}, []int{0, 1, 3, 4}},
		{[]int{2, 2, 5, 6, 2}, nil},
	} {
		n := opened(t, 5)
		holdErr(t, "Reset", n.Reset(1), api.OK)
		holdClose(t, n, 1, 2)
		holdErr(t, "Half", n.Half(4), api.OK)
		holdErr(t, "Shut", n.Shut(4), api.OK)
		holdConnect(t, n, 50, 5, api.OK)
		holdConnect(t, n, 60, 6, api.OK)
		holdErr(t, "Reset", n.Reset(6), api.OK)
		want := []view{
			{open: true, peer: 10},
			{open: true, broken: true, peer: 11, read: true, write: true, reads: 1, writes: 1, ended: true},
			{peer: 12, ended: true},
			{open: true, peer: 13},
			{open: true, peer: 14, read: true, reads: 1, ended: true},
			{waits: true, peer: 50},
			{waits: true, broken: true, peer: 60, reads: 1, writes: 1, ended: true},
			{},
		}
		for _, e := range c.ended {
			want[e].open, want[e].read, want[e].write, want[e].ended = false, false, false, true
		}
		holdClose(t, n, len(c.ended), c.close...)
		for i, v := range want {
			holdView(t, n, i, v)
		}
		holdLen(t, n, 2, 4-len(c.ended))
		holdReady(t, n, -1, true, false)
		holdMarks(t, n, -1, 7, 0)
	}
}

// P7.5: Stop with several that wait and some that are open; a second one does nothing.
func TestStop(t *testing.T) {
	n := opened(t, 2)
	for c := 2; c < 6; c++ {
		holdConnect(t, n, 10+c, c, api.OK)
	}
	for _, c := range []int{0, 2, 3} {
		holdSend(t, n, c, 3, api.OK, []byte("abc"))
		holdErr(t, "Open", n.Open(c, 5), api.OK)
	}
	holdErr(t, "Half", n.Half(3), api.OK)
	holdErr(t, "Reset", n.Reset(4), api.OK)
	holdClose(t, n, 1, 1)
	for range 2 {
		n.Stop()
		holdView(t, n, 0, view{open: true, peer: 10, read: true, write: true, reads: 1, writes: 1})
		holdView(t, n, 1, view{peer: 11, ended: true})
		holdView(t, n, 2, view{broken: true, peer: 12, reads: 1, writes: 1, ended: true})
		holdView(t, n, 3, view{broken: true, peer: 13, reads: 2, writes: 1, ended: true})
		holdView(t, n, 4, view{broken: true, peer: 14, reads: 1, writes: 1, ended: true})
		holdView(t, n, 5, view{broken: true, peer: 15, ended: true})
		holdView(t, n, 6, view{})
		holdLen(t, n, 0, 1)
		holdReady(t, n, -1, false, false)
		holdMarks(t, n, -1, 6, 0)
		holdAccept(t, n, 0, 0, api.ErrClosed)
		holdConnect(t, n, 1, 0, api.ErrClosed)
		for c := 2; c < 6; c++ {
			holdSend(t, n, c, 0, api.ErrReset, []byte("x"))
			holdErr(t, "Reset", n.Reset(c), api.ErrReset)
			holdErr(t, "Shut", n.Shut(c), api.ErrClosed)
			holdRead(t, n, c, 9, "", api.ErrClosed)
			holdClose(t, n, 0, c)
		}
	}
	holdRead(t, n, 0, 2, "ab", api.OK)
	holdSend(t, n, 0, 1, api.OK, []byte("d"))
	holdWrite(t, n, 0, "xyz", 3, api.OK)
	n.Stop()
	holdRead(t, n, 0, 9, "cd", api.OK)
	holdWrite(t, n, 0, "xyz", 2, api.OK)
	holdView(t, n, 0, view{open: true, peer: 10, reads: 2, writes: 1, got: "xyzxy", taken: "abcd"})
}

// P7.5: Ready of an open one, with bytes or none, halved or not, with a window or none, shut or not, broken or not.
func TestReady(t *testing.T) {
	for kind := range 32 {
		has := func(bit int) bool { return kind>>bit&1 == 1 }
		bytes, halved, window, shut, broken := has(0), has(1), has(2), has(3), has(4)
		n := waiting(t, 1)
		if bytes {
			holdSend(t, n, 0, 1, api.OK, []byte("a"))
		}
		if window {
			holdErr(t, "Open", n.Open(0, 1), api.OK)
		}
		if halved {
			holdErr(t, "Half", n.Half(0), api.OK)
		}
		holdReady(t, n, 0, false, false)
		holdReady(t, n, -1, true, false)
		n.Accept()
		holdReady(t, n, -1, false, false)
		if shut {
			holdErr(t, "Shut", n.Shut(0), api.OK)
		}
		if broken {
			holdErr(t, "Reset", n.Reset(0), api.OK)
		}
		holdReady(t, n, 0, bytes || halved || broken, window && !shut || broken)
		if bytes && !broken {
			holdRead(t, n, 0, 1, "a", api.OK)
			holdReady(t, n, 0, halved, window && !shut)
		}
		if window && !shut && !broken {
			holdWrite(t, n, 0, "x", 1, api.OK)
			holdReady(t, n, 0, halved, false)
		}
		n.Stop()
		holdReady(t, n, 0, halved || broken, broken)
		holdClose(t, n, 1, 0)
		holdReady(t, n, 0, false, false)
		holdReady(t, n, -1, false, false)
	}
}

// P7.6: Marks of either direction behind each call that counts, and behind those that do not.
func TestMarks(t *testing.T) {
	n := newNet(t, 2)
	holdMarks(t, n, 0, 0, 0)
	holdConnect(t, n, 1, 0, api.OK)
	for i := range 2 {
		r := 3 * i
		for _, c := range []struct {
			call        func()
			read, write int
		}{
			{func() { n.Send(0) }, 0, 0},
			{func() { n.Send(0, nil, []byte{}) }, 0, 0},
			{func() { n.Send(0, []byte("a")) }, 1, 0},
			{func() { n.Send(0, rows("ab", "c")...) }, 2, 0},
			{func() { n.Open(0, 0) }, 2, 0},
			{func() { n.Open(0, 5) }, 2, 1},
			{func() { n.Open(0, -5) }, 2, 1},
			{func() { n.Open(0, 1) }, 2, 2},
			{func() { n.Read(0, 2) }, 2, 2},
			{func() { n.Write(0, []byte("xyz")) }, 2, 2},
			{func() { n.Send(0, make([]byte, 2*room)) }, 3, 2},
			{func() { n.Send(0, []byte("a")) }, 3, 2},
			{func() { n.Inject(0) }, 3, 2},
		} {
			c.call()
			holdMarks(t, n, 0, r+c.read, 2*i+c.write)
		}
		n.Accept()
		n.Read(0, 2*room)
	}
	n.Half(0)
	holdMarks(t, n, 0, 7, 4)
	n.Half(0)
	n.Shut(0)
	holdMarks(t, n, 0, 7, 4)
	n.Reset(0)
	holdMarks(t, n, 0, 8, 5)
	n.Reset(0)
	n.Send(0, []byte("a"))
	n.Open(0, 1)
	n.Half(0)
	n.Close(0)
	n.Stop()
	holdMarks(t, n, 0, 8, 5)
	holdMarks(t, n, -1, 1, 0)
	holdMarks(t, n, 1, 0, 0)
	holdMarks(t, n, -2, 0, 0)
}

// P7.7: bytes come in the order in which they were sent, each once, in both directions, in whatever portions.
func TestPortions(t *testing.T) {
	all := text(5000)
	for _, send := range []int{1, 3, 100, room, 2 * room} {
		for _, read := range []int{1, 2, 7, 999, 5000} {
			n := opened(t, 2)
			sent, opened, out, in := 0, 0, 0, ""
			for len(in) < len(all) || out < len(all) {
				k, err := n.Send(0, []byte(all[sent:min(sent+send, len(all))]), nil)
				if want := min(send, len(all)-sent, room-sent+len(in)); k != want || err != api.OK {
					t.Fatalf("Send of %d = %d, %v, not %d", send, k, err, want)
				}
				sent += k
				if b, err := n.Read(0, read); err == api.OK {
					in += string(b)
				}
				holdErr(t, "Open", n.Open(0, send), api.OK)
				opened += send
				k, err = n.Write(0, []byte(all[out:min(out+read, len(all))]))
				if want := min(read, len(all)-out, opened-out); k != want || err != api.OK {
					t.Fatalf("Write of %d = %d, %v, not %d", read, k, err, want)
				}
				out += k
				holdTaken(t, n, 0, all[:len(in)])
				holdGot(t, n, 0, all[:out], false)
			}
			if in != all {
				t.Errorf("Sends of %d, Reads of %d: other bytes were read", send, read)
			}
			holdView(t, n, 1, view{open: true, peer: 11})
		}
	}
}

// W1: much is sent and written in a short time.
func TestMuch(t *testing.T) {
	n := opened(t, 1)
	row := []byte(text(room))
	holdErr(t, "Open", n.Open(0, 1<<40), api.OK)
	for range 30000 {
		n.Send(0, row)
		n.Read(0, room)
		n.Write(0, row)
	}
	want := strings.Repeat(text(room), 30000)
	holdGot(t, n, 0, want, false)
	holdTaken(t, n, 0, want)
}

// heap is how many bytes are in use.
func heap() int {
	runtime.GC()
	var m runtime.MemStats
	runtime.ReadMemStats(&m)
	return int(m.HeapAlloc)
}

// What was not read isn't kept behind a Close, a Reset or a Stop.
func TestUnreadIsNotKept(t *testing.T) {
	const many = 20000
	before := heap()
	n := newNet(t, api.MaxBacklog)
	for c := range many {
		holdConnect(t, n, 1, c, api.OK)
		holdSend(t, n, c, room, api.OK, make([]byte, room))
		switch {
		case c >= many-api.MaxBacklog: // is left to Stop
			continue
		case c%3 == 0:
			n.Reset(c)
		}
		holdAccept(t, n, c, 1, api.OK)
		switch c % 3 {
		case 1:
			n.Close(c)
		case 2:
			n.Reset(c)
		}
	}
	n.Stop()
	if k := heap() - before; k > many*room/4 {
		t.Errorf("%d bytes are kept of %d connections of which none can be read", k, many)
	}
	runtime.KeepAlive(n)
}

// P7.7, W6: Send and Write leave what they are handed as it is, spare room too, and keep none of it.
func TestCallsLeaveTheirRows(t *testing.T) {
	n := opened(t, 1)
	holdErr(t, "Open", n.Open(0, 100), api.OK)
	part := []byte("abcdefgh")
	list := [][]byte{part[:3], part[3:5], part[5:6]}
	before := slices.Clone(list)
	holdSend(t, n, 0, 5, api.OK, list[:2]...)
	holdSend(t, n, 0, 4, api.OK, part[4:8:8])
	if k, err := n.Write(0, part[:2]); k != 2 || err != api.OK {
		t.Errorf("Write = %d, %v", k, err)
	}
	if k, err := n.Write(0, part[6:]); k != 2 || err != api.OK {
		t.Errorf("Write = %d, %v", k, err)
	}
	holdSend(t, n, 0, 1, api.OK, []byte("!"))
	b, _ := n.Read(0, 4)
	spoil(b)
	holdSend(t, n, 0, 2, api.OK, []byte("??"))
	if string(part) != "abcdefgh" {
		t.Errorf("what was handed in is changed: %q", part)
	}
	for i := range list {
		if len(list[i]) != len(before[i]) || cap(list[i]) != cap(before[i]) || &list[i][0] != &before[i][0] {
			t.Errorf("Send changed row %d of its list", i)
		}
	}
	clear(part)
	clear(list)
	holdGot(t, n, 0, "abgh", false)
	holdRead(t, n, 0, 99, "eefgh!??", api.OK)
	holdTaken(t, n, 0, "abcdeefgh!??")
}

// P7.4, W6: Close leaves its list.
func TestCloseLeavesItsList(t *testing.T) {
	n := opened(t, 3)
	list := []int{2, 0, 2, 9, -1, 1, 7}
	holdClose(t, n, 2, list[:5]...)
	if !slices.Equal(list, []int{2, 0, 2, 9, -1, 1, 7}) {
		t.Errorf("Close changed its list: %v", list)
	}
	holdView(t, n, 1, view{open: true, peer: 11})
}

// P7.2: a row that stands twice in a list, lies over another or was answered, is sent as often as it stands.
func TestSharedRows(t *testing.T) {
	n := opened(t, 1)
	b := []byte("abcd")
	holdSend(t, n, 0, 13, api.OK, b, b, b[1:], b[:2])
	got, _ := n.Read(0, 13)
	if string(got) != "abcdabcdbcdab" {
		t.Errorf("Read = %q", got)
	}
	holdSend(t, n, 0, 15, api.OK, got, got[:2])
	holdSend(t, n, 0, 13, api.OK, n.Taken(0))
	holdRead(t, n, 0, 99, "abcdabcdbcdababcabcdabcdbcdab"[:13]+"ab"+"abcdabcdbcdab", api.OK)
}

// spoil writes over an answer and all of its spare room.
func spoil(b []byte) {
	b = b[:cap(b)]
	for i := range b {
		b[i] = '#'
	}
}

// P7.7, W6, W7: what Read, Got and Taken answer is new memory, spare room too: nothing that is done with it, or behind it,
// is to be seen elsewhere.
func TestAnswersAreNewMemory(t *testing.T) {
	for read := 1; read < 9; read++ {
		for write := range 9 {
			n := opened(t, 1)
			n.Open(0, 100)
			n.Send(0, []byte("abcdefgh"))
			n.Write(0, []byte("ijklmnop")[:write])
			answers := func() [][]byte {
				got, _ := n.Got(0)
				return [][]byte{n.Taken(0), n.Taken(0), got}
			}
			first, _ := n.Read(0, read)
			l := append(answers(), first)
			kept := append(answers(), slices.Clone(first))
			for i, b := range l {
				if !bytes.Equal(b, kept[i]) {
					t.Errorf("answer %d is %q, then %q", i, b, kept[i])
				}
				spoil(b)
				_ = append(b, "####"...)
			}
			holdTaken(t, n, 0, "abcdefgh"[:read])
			holdGot(t, n, 0, "ijklmnop"[:write], false)
			for i, want := range []string{"abcdefgh"[:read], "abcdefgh"[:read], "ijklmnop"[:write], "abcdefgh"[:read]} {
				if string(kept[i]) != want {
					t.Errorf("one answer shares memory with another: %q, not %q", kept[i], want)
				}
			}
			n.Send(0, []byte("!!!!!!!!"))
			n.Write(0, []byte("????????"))
			if want := "abcdefgh"[read:] + "!!!!!!!!"; want != "" {
				holdRead(t, n, 0, 99, want, api.OK)
			}
			n.Reset(0)
			n.Close(0)
			holdTaken(t, n, 0, "abcdefgh!!!!!!!!")
			holdGot(t, n, 0, "ijklmnop"[:write]+"????????", true)
			for i, want := range []string{"abcdefgh"[:read], "abcdefgh"[:read], "ijklmnop"[:write], "abcdefgh"[:read]} {
				if string(kept[i]) != want {
					t.Errorf("an answer changed behind later calls: %q, not %q", kept[i], want)
				}
			}
		}
	}
}

// P7.7: of a nil Net what may err answers ErrArg, all else nothing.
func TestNilNet(t *testing.T) {
	var n *net.Net
	for range 2 {
		for _, c := range slices.Concat(below, above, []int{0, 1}) {
			holdConnect(t, n, c, 0, api.ErrArg)
			holdSend(t, n, c, 0, api.ErrArg)
			holdSend(t, n, c, 0, api.ErrArg, rows("a", "b")...)
			holdErr(t, "Half", n.Half(c), api.ErrArg)
			holdErr(t, "Reset", n.Reset(c), api.ErrArg)
			for _, k := range []int{-1, 0, 1} {
				holdErr(t, "Open", n.Open(c, k), api.ErrArg)
				holdRead(t, n, c, k, "", api.ErrArg)
			}
			n.Inject(c)
			holdAccept(t, n, 0, 0, api.ErrArg)
			holdWrite(t, n, c, "", 0, api.ErrArg)
			holdWrite(t, n, c, "x", 0, api.ErrArg)
			holdErr(t, "Shut", n.Shut(c), api.ErrArg)
			holdClose(t, n, 0)
			holdClose(t, n, 0, c, 0)
			holdView(t, n, c, view{})
			holdLen(t, n, 0, 0)
		}
		n.Stop()
	}
}

// W1: a Net that New did not make panics as little; nobody can come to it.
func TestUnmadeNet(t *testing.T) {
	n := new(net.Net)
	for range 2 {
		holdConnect(t, n, 1, 0, api.ErrFull)
		holdConnect(t, n, 256, 0, api.ErrArg)
		n.Inject(1)
		holdAccept(t, n, 0, 0, api.ErrNone)
		for _, c := range []int{-1, 0, 1} {
			holdSend(t, n, c, 0, api.ErrNone, []byte("a"))
			holdErr(t, "Open", n.Open(c, 1), api.ErrNone)
			holdRead(t, n, c, 1, "", api.ErrNone)
			holdWrite(t, n, c, "", 0, api.ErrNone)
			holdClose(t, n, 0, c)
			holdView(t, n, c, view{})
		}
		holdLen(t, n, 0, 0)
	}
	n.Stop()
	holdConnect(t, n, 1, 0, api.ErrClosed)
}

// W8: a Net that was copied as a value goes on, if one of the two is used no more.
func TestCopiedNet(t *testing.T) {
	old := opened(t, 2)
	holdSend(t, old, 0, 3, api.OK, []byte("abc"))
	holdErr(t, "Open", old.Open(0, 3), api.OK)
	holdConnect(t, old, 12, 2, api.OK)
	old.Inject(1)
	n := *old
	holdRead(t, &n, 0, 2, "ab", api.OK)
	holdWrite(t, &n, 0, "xyzz", 3, api.OK)
	holdAccept(t, &n, 0, 0, api.ErrAccept)
	holdAccept(t, &n, 2, 12, api.OK)
	holdConnect(t, &n, 13, 3, api.OK)
	holdClose(t, &n, 1, 1)
	holdLen(t, &n, 1, 2)
	holdView(t, &n, 0, view{open: true, peer: 10, read: true, reads: 1, writes: 1, got: "xyz", taken: "ab"})
}

// Nets have nothing to do with each other.
func TestNetsApart(t *testing.T) {
	a, b := opened(t, 1), waiting(t, 2)
	holdSend(t, a, 0, 3, api.OK, []byte("abc"))
	b.Inject(1)
	holdErr(t, "Open", b.Open(0, 4), api.OK)
	holdErr(t, "Half", b.Half(1), api.OK)
	b.Stop()
	holdView(t, a, 0, view{open: true, peer: 10, read: true, reads: 1})
	holdConnect(t, a, 3, 1, api.OK)
	holdAccept(t, a, 1, 3, api.OK)
	holdClose(t, a, 2, 0, 1)
	holdView(t, b, 0, view{broken: true, peer: 10, writes: 1, ended: true})
}

// W2, W9, P0.7: asking changes nothing, and several may ask at once.
func TestAskingChangesNothing(t *testing.T) {
	s := standing{"bah", api.OK, api.OK}
	n := s.build(t)
	holdRead(t, n, 1, 1, "a", api.OK)
	before, waits, open := all(n)
	var wait sync.WaitGroup
	for range 4 {
		wait.Go(func() {
			for range 50 {
				if l, w, o := all(n); l != before || w != waits || o != open {
					t.Errorf("asking answers %v, then %v", before, l)
				}
			}
		})
	}
	wait.Wait()
	holdRead(t, n, 1, 9, "bc", api.OK)
	holdWrite(t, n, 1, "xyz", 2, api.OK)
}
