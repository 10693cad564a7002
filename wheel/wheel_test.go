package wheel_test

import (
	"cmp"
	"fmt"
	"math"
	"slices"
	"sync"
	"testing"

	"usher/api"
	"usher/wheel"
)

const end = api.MaxTicks

// noTimes are below 0 or above MaxTicks, those among them that would be times if they lost bits.
var noTimes = []int{-1, -2, -64, -end, math.MinInt32, math.MinInt + 1, math.MinInt,
	end + 1, end + 2, end + 64, 2 * end, 1 << 41, 1 << 48, 1<<62 + 1, math.MaxInt - 1, math.MaxInt}

// nows are times about the edges of each digit, and some that lie at none.
var nows = []int{0, 1, 5, 62, 63, 64, 65, 1000, 4095, 4096, 4097, 123456, 1<<18 - 1, 1 << 18, 1<<18 + 1,
	1<<24 - 1, 1 << 24, 1<<24 + 1, 0x123456789, 1<<30 - 1, 1 << 30, 1<<36 - 1, 1 << 36, 1<<36 + 1, end - 64, end - 1, end}

// short keeps what is told of a long list to its beginning.
func short(l []int) string {
	s := fmt.Sprint(l)
	return s[:min(len(s), 160)]
}

func handle(slot, gen int) api.Handle { return api.Handle{Slot: slot, Gen: gen} }

// power is 64 to the n.
func power(n int) int {
	p := 1
	for range n {
		p *= 64
	}
	return p
}

// place is where a timer is by the document's words: at the least level above whose digit its time and now are alike.
func place(at, now int) (level, slot int) {
	if at <= now {
		return 0, now % 64
	}
	for level := range 4 {
		if at/power(level+1) == now/power(level+1) {
			return level, at / power(level) % 64
		}
	}
	return 4, 0
}

// timer is one of the model's.
type timer struct {
	h        api.Handle
	at, what int
}

// pair is a wheel beside a plain model of it. Each call is held against the model, and so is all that can be asked
// behind it.
type pair struct {
	t      *testing.T
	w      *wheel.Wheel
	now    int
	timers []timer // in the order in which they were Added or Reset last
	uses   []int   // of each slot
	gone   []api.Handle
	brief  bool // ask for little
}

func newWheel(t *testing.T, now int) *wheel.Wheel {
	t.Helper()
	w, err := wheel.New(now)
	if w == nil || err != api.OK {
		t.Fatalf("New(%d) = %v, %v", now, w, err)
	}
	return w
}

func newPair(t *testing.T, now int) *pair {
	t.Helper()
	p := &pair{t: t, w: newWheel(t, now), now: now}
	p.hold()
	return p
}

// find is where in the model's row a timer stands; -1: nowhere.
func (p *pair) find(h api.Handle) int {
	return slices.IndexFunc(p.timers, func(x timer) bool { return x.h == h })
}

// free is the least slot that no timer has.
func (p *pair) free() int {
	used := make([]bool, len(p.timers)+1)
	for _, x := range p.timers {
		if x.h.Slot < len(used) {
			used[x.h.Slot] = true
		}
	}
	return slices.Index(used, false)
}

func (p *pair) add(at, what int) api.Handle {
	p.t.Helper()
	slot := p.free()
	for slot >= len(p.uses) {
		p.uses = append(p.uses, 0)
	}
	p.uses[slot]++
	want := handle(slot, p.uses[slot])
	if h, err := p.w.Add(at, what); h != want || err != api.OK {
		p.t.Errorf("at %d Add(%d, %d) = %v, %v, not %v", p.now, at, what, h, err, want)
	}
	p.timers = append(p.timers, timer{want, at, what})
	p.hold()
	return want
}

func (p *pair) reset(h api.Handle, at int) {
	p.t.Helper()
	if err := p.w.Reset(h, at); err != api.OK {
		p.t.Errorf("at %d Reset(%v, %d) = %v", p.now, h, at, err)
	}
	i := p.find(h)
	x := p.timers[i]
	x.at = at
	p.timers = append(slices.Delete(p.timers, i, i+1), x)
	p.hold()
}

func (p *pair) cancel(h ...api.Handle) {
	p.t.Helper()
	want := 0
	for _, x := range h {
		if i := p.find(x); i >= 0 {
			p.timers = slices.Delete(p.timers, i, i+1)
			p.gone = append(p.gone, x)
			want++
		}
	}
	if n := p.w.Cancel(h...); n != want {
		p.t.Errorf("Cancel(%v) = %d, not %d", h, n, want)
	}
	p.hold()
}

// due is what the model fires by a time.
func (p *pair) due(now int) []int {
	var due, left []timer
	for _, x := range p.timers {
		if x.at <= now {
			due = append(due, x)
			p.gone = append(p.gone, x.h)
		} else {
			left = append(left, x)
		}
	}
	slices.SortStableFunc(due, func(a, b timer) int { return cmp.Compare(a.at, b.at) })
	var whats []int
	for _, x := range due {
		whats = append(whats, x.what)
	}
	p.timers = left
	return whats
}

// advance holds what is told against the model, and tells it.
func (p *pair) advance(now int) []int {
	p.t.Helper()
	before := p.now
	p.now = min(max(now, p.now), end)
	want := p.due(p.now)
	got := p.w.Advance(now)
	if !slices.Equal(got, want) {
		p.t.Errorf("at %d Advance(%d) = %s, not %s", before, now, short(got), short(want))
	}
	p.hold()
	return got
}

// fires holds what Advance tells against what the test names, besides.
func (p *pair) fires(now int, want ...int) {
	p.t.Helper()
	if got := p.advance(now); !slices.Equal(got, want) {
		p.t.Errorf("Advance(%d) = %s, not %s", now, short(got), short(want))
	}
}

// stale asks all that a Handle can be handed to which is none of a timer.
func (p *pair) stale(h ...api.Handle) {
	p.t.Helper()
	for _, x := range h {
		p.nowhere(x)
		if err := p.w.Reset(x, p.now); err != api.ErrStale {
			p.t.Errorf("Reset(%v, %d) = %v, not ErrStale", x, p.now, err)
		}
		if n := p.w.Cancel(x); n != 0 {
			p.t.Errorf("Cancel(%v) = %d, not 0", x, n)
		}
	}
	p.hold()
}

func (p *pair) nowhere(h api.Handle) {
	p.t.Helper()
	if level, slot, err := p.w.Where(h); level != 0 || slot != 0 || err != api.ErrStale {
		p.t.Errorf("Where(%v) = %d, %d, %v, not 0, 0, ErrStale", h, level, slot, err)
	}
}

func (p *pair) at(h api.Handle, level, slot int) {
	p.t.Helper()
	if l, s, err := p.w.Where(h); l != level || s != slot || err != api.OK {
		p.t.Errorf("at %d Where(%v) = %d, %d, %v, not %d, %d", p.now, h, l, s, err, level, slot)
	}
}

// hold asks for the time, how many there are, the next one, and the place of each timer.
func (p *pair) hold() {
	p.t.Helper()
	if n := p.w.Now(); n != p.now {
		p.t.Errorf("Now = %d, not %d", n, p.now)
	}
	if n := p.w.Len(); n != len(p.timers) {
		p.t.Errorf("Len = %d, not %d", n, len(p.timers))
	}
	least, some := 0, len(p.timers) > 0
	if some {
		least = slices.MinFunc(p.timers, func(a, b timer) int { return cmp.Compare(a.at, b.at) }).at
	}
	if n, ok := p.w.Next(); n != least || ok != some {
		p.t.Errorf("at %d Next = %d, %v, not %d, %v", p.now, n, ok, least, some)
	}
	if p.brief {
		return
	}
	for _, x := range p.timers {
		level, slot := place(x.at, p.now)
		p.at(x.h, level, slot)
	}
	for _, h := range p.gone[max(0, len(p.gone)-10):] {
		p.nowhere(h)
	}
}

// The chapter's example.
func TestExample(t *testing.T) {
	p := newPair(t, 0)
	h := p.add(64, 7)
	p.at(h, 1, 1)
	p.fires(63)
	p.at(h, 1, 1)
	p.fires(64, 7)
	p.nowhere(h)
}

// P6.1: New at each time, and at none else.
func TestNew(t *testing.T) {
	for _, now := range noTimes {
		if w, err := wheel.New(now); w != nil || err != api.ErrArg {
			t.Errorf("New(%d) = %v, %v, not nil, ErrArg", now, w, err)
		}
	}
	for _, now := range nows {
		p := newPair(t, now)
		p.stale(api.Handle{}, handle(0, 1))
		p.fires(now)
		h := p.add(now, 3)
		p.at(h, 0, now%64)
		p.fires(now, 3)
	}
}

// P6.1, P6.2: Add at each time, below Now, at Now and above it; the timer fires then, and not ahead of it.
func TestAddAt(t *testing.T) {
	for _, now := range nows {
		for _, at := range slices.Concat(nows, []int{max(now-1, 0), now / 2, min(now+1, end), min(now+64, end)}) {
			p := newPair(t, now)
			p.add(at, -5)
			if at > now {
				p.fires(at - 1)
			}
			p.fires(at, -5)
			p.fires(end)
		}
	}
}

// P6.1: a time that is none is ErrArg, and nothing has changed: no slot was used by it.
func TestAddErrors(t *testing.T) {
	for _, now := range []int{0, 1000, end} {
		p := newPair(t, now)
		for _, at := range noTimes {
			if h, err := p.w.Add(at, 1); h != (api.Handle{}) || err != api.ErrArg {
				t.Errorf("Add(%d) = %v, %v", at, h, err)
			}
			p.hold()
		}
		if h := p.add(end, 4); h != handle(0, 1) {
			t.Errorf("the first Handle is %v", h)
		}
		for _, at := range noTimes {
			p.w.Add(at, 1)
			p.hold()
		}
		if h := p.add(0, 5); h != handle(1, 1) {
			t.Errorf("the second Handle is %v", h)
		}
		p.fires(end, 5, 4)
	}
}

// full is a wheel with MaxSlots timers, at times over all levels; slot i is for i.
func full(t *testing.T, now int) *pair {
	t.Helper()
	p := newPair(t, now)
	p.brief = true
	for i := range api.MaxSlots {
		if h := p.add(min(now+i*i*i*i/16, end), i); h != handle(i, 1) {
			t.Fatalf("the Handle %d is %v", i, h)
		}
	}
	return p
}

func holdFull(t *testing.T, p *pair) {
	t.Helper()
	for _, at := range []int{0, p.now, end} {
		if h, err := p.w.Add(at, 1); h != (api.Handle{}) || err != api.ErrFull {
			t.Errorf("Add(%d) to a full wheel = %v, %v", at, h, err)
		}
	}
	for _, at := range noTimes {
		if h, err := p.w.Add(at, 1); h != (api.Handle{}) || err != api.ErrArg {
			t.Errorf("Add(%d) to a full wheel = %v, %v, not ErrArg", at, h, err)
		}
	}
	p.hold()
}

// P6.1: MaxSlots timers and no more; ErrArg ahead of ErrFull; whoever is Cancelled, Reset or fires leaves as much room.
func TestFull(t *testing.T) {
	p := full(t, 100)
	p.brief = false
	holdFull(t, p)
	p.reset(handle(4000, 1), 100)
	holdFull(t, p)
	p.cancel(handle(77, 1))
	if h := p.add(5, -1); h != handle(77, 2) {
		t.Errorf("behind a Cancel the Handle is %v", h)
	}
	holdFull(t, p)
	p.advance(100)
	n := api.MaxSlots - p.w.Len()
	if n != 4 {
		t.Errorf("%d fired, not those of the slots 0, 1, 77 and 4000", n)
	}
	for _, slot := range []int{0, 1, 77, 4000} {
		if h := p.add(end, -2); h.Slot != slot {
			t.Errorf("behind firings the Handle is %v, not of %d", h, slot)
		}
	}
	holdFull(t, p)
	if n := len(p.advance(end)); n != api.MaxSlots {
		t.Errorf("%d fired at the end", n)
	}
	for i := range 3 {
		if h := p.add(0, i); h.Slot != i {
			t.Errorf("behind all the Handle is %v, not of %d", h, i)
		}
	}
}

// P6.1: Handles are of the least slot that is free, each Gen the count of its uses, behind Cancels and firings in any order.
func TestHandles(t *testing.T) {
	p := newPair(t, 10)
	for i := range 6 {
		p.add(20+i%3, i) // 0 and 3 at 20, 1 and 4 at 21, 2 and 5 at 22
	}
	given := func(want ...api.Handle) {
		t.Helper()
		for _, w := range want {
			if h := p.add(1000, 9); h != w {
				t.Errorf("the Handle is %v, not %v", h, w)
			}
		}
	}
	p.cancel(handle(4, 1), handle(1, 1))
	given(handle(1, 2))
	p.fires(20, 0, 3)
	given(handle(0, 2), handle(3, 2), handle(4, 2), handle(6, 1))
	p.cancel(handle(6, 1))
	p.fires(22, 2, 5)
	p.cancel(handle(0, 2))
	given(handle(0, 3), handle(2, 2), handle(5, 2), handle(6, 2), handle(7, 1))
	p.stale(handle(0, 1), handle(0, 2), handle(1, 1), handle(2, 1), handle(3, 1), handle(4, 1), handle(5, 1), handle(6, 1))
	p.fires(1000, 9, 9, 9, 9, 9, 9, 9, 9)
	given(handle(0, 4), handle(1, 3), handle(2, 3), handle(3, 3), handle(4, 3), handle(5, 3), handle(6, 3), handle(7, 2), handle(8, 1))
}

// P6.1: slots are counted one by one, whether a timer ends by Cancel or by Advance; a Reset is no use of its own.
func TestGenCountsUses(t *testing.T) {
	p := newPair(t, 0)
	p.add(end, 1)
	for gen := 1; gen <= 600; gen++ {
		h := p.add(gen, gen)
		if h != handle(1, gen) {
			t.Fatalf("the Handle is %v, not of Gen %d", h, gen)
		}
		p.reset(h, gen+1)
		p.reset(h, gen)
		if gen%3 == 0 {
			p.cancel(h)
		} else {
			p.fires(gen, gen)
		}
		p.stale(h)
	}
}

// P6.1: any number is what a timer may be for.
func TestWhat(t *testing.T) {
	whats := []int{0, -1, 1, math.MaxInt, math.MinInt, 1 << 40, 0, 7, 7}
	p := newPair(t, 3)
	for _, x := range whats {
		p.add(9, x)
	}
	p.fires(9, whats...)
	for i, x := range whats {
		p.add(1000-i, x)
	}
	slices.Reverse(whats)
	p.fires(1000, whats...)
}

// P6.1, P6.3: Reset to each time from each time: the timer is there, and fires at that time, not ahead of it.
func TestReset(t *testing.T) {
	for _, now := range []int{0, 63, 64, 1000, 4095, 1<<24 - 1, 1 << 24, 1<<36 + 5, end - 1, end} {
		for _, from := range []int{0, now, min(now+1, end), min(now+100, end), min(now+5000, end), end} {
			for _, at := range []int{0, max(now-1, 0), now, min(now+1, end), min(now+63, end), min(now+64, end), min(now+300000, end), from, end} {
				p := newPair(t, now)
				p.add(end, 1)
				h := p.add(from, 2)
				p.add(from, 3)
				p.reset(h, at)
				p.advance(max(at-1, 0))
				if at > p.now {
					p.reset(h, at)
				}
				p.advance(at)
				p.nowhere(h)
				p.advance(end)
			}
		}
	}
}

// P6.1: an earlier time, a later one, its own one, one below Now, in words.
func TestResetFires(t *testing.T) {
	for _, c := range []struct {
		at   int
		want []int // what fires at 100, at 150, at 200, at 300
	}{
		{0, []int{2, 0, 13, 0}},
		{99, []int{2, 0, 13, 0}},
		{100, []int{2, 0, 13, 0}},
		{101, []int{0, 2, 13, 0}},
		{150, []int{0, 2, 13, 0}},
		{199, []int{0, 0, 213, 0}},
		{200, []int{0, 0, 132, 0}},
		{201, []int{0, 0, 13, 2}},
		{300, []int{0, 0, 13, 2}},
		{301, []int{0, 0, 13, 0}},
	} {
		p := newPair(t, 100)
		p.add(200, 1)
		h := p.add(200, 2)
		p.add(200, 3)
		p.reset(h, c.at)
		for i, now := range []int{100, 150, 200, 300} {
			told := 0
			for _, what := range p.advance(now) {
				told = 10*told + what
			}
			if told != c.want[i] {
				t.Errorf("Reset to %d: at %d there is %d, not %d", c.at, now, told, c.want[i])
			}
		}
	}
}

// strangers are Handles that no wheel of a few timers gave.
func strangers() []api.Handle {
	l := []api.Handle{{}}
	for _, slot := range []int{-1, -64, math.MinInt, 100, 4095, 4096, 4097, 1 << 32, math.MaxInt} {
		for _, gen := range []int{-1, 0, 1, 2, math.MinInt, math.MaxInt} {
			l = append(l, handle(slot, gen))
		}
	}
	for _, gen := range []int{0, -1, 5, 1 + 1<<32, math.MinInt, math.MaxInt} {
		l = append(l, handle(0, gen), handle(1, gen), handle(2, gen))
	}
	return l
}

// some is a wheel of two timers, and the Handles that it gave and that are none of a timer any more.
func some(t *testing.T) (p *pair, old []api.Handle) {
	t.Helper()
	p = newPair(t, 50)
	fired := p.add(60, 1)
	cancelled := p.add(5000, 2)
	elder := p.add(10, 3)
	p.cancel(cancelled)
	p.fires(50, 3)
	p.add(70, 4)
	p.fires(60, 1)
	if h := p.add(80, 5); h != handle(0, 2) {
		t.Errorf("a slot is used again as %v", h)
	}
	return p, []api.Handle{fired, cancelled, elder}
}

// P6.1, P6.3: a Handle that fired, was Cancelled, is of an elder use, or is none: ErrStale, but ErrArg ahead of it; and nothing has changed.
func TestStaleHandles(t *testing.T) {
	p, old := some(t)
	old = append(old, strangers()...)
	p.stale(old...)
	for _, h := range old {
		for _, at := range []int{0, 50, 61, 62, 70, 80, 5000, end} {
			if err := p.w.Reset(h, at); err != api.ErrStale {
				t.Errorf("Reset(%v, %d) = %v, not ErrStale", h, at, err)
			}
		}
		for _, at := range noTimes {
			if err := p.w.Reset(h, at); err != api.ErrArg {
				t.Errorf("Reset(%v, %d) = %v, not ErrArg", h, at, err)
			}
		}
	}
	p.cancel(old...)
	p.add(70, 6)
	p.fires(70, 4, 6)
	p.fires(80, 5)
}

// P6.1: Reset to no time is ErrArg, and nothing has changed, the order of those of one time neither.
func TestResetToNoTime(t *testing.T) {
	for _, at := range noTimes {
		p := newPair(t, 50)
		hs := []api.Handle{p.add(60, 1), p.add(60, 2), p.add(40, 3), p.add(40, 4), p.add(end, 5)}
		for _, h := range hs {
			if err := p.w.Reset(h, at); err != api.ErrArg {
				t.Errorf("Reset(%v, %d) = %v, not ErrArg", h, at, err)
			}
			p.hold()
		}
		p.fires(60, 3, 4, 1, 2)
		p.fires(end, 5)
	}
}

// P6.1: Cancel of none, of one, of several, of one twice, of some that are no timers. Ways: Cancel is variadic.
func TestCancel(t *testing.T) {
	a, b, c, d := handle(0, 1), handle(1, 1), handle(2, 1), handle(3, 1)
	for _, x := range []struct {
		cancel []api.Handle
		want   int
		left   []int
	}{
		{nil, 0, []int{1, 2, 3, 4}},
		{[]api.Handle{}, 0, []int{1, 2, 3, 4}},
		{[]api.Handle{{}}, 0, []int{1, 2, 3, 4}},
		{[]api.Handle{a}, 1, []int{2, 3, 4}},
		{[]api.Handle{b}, 1, []int{1, 3, 4}},
		{[]api.Handle{d}, 1, []int{1, 2, 3}},
		{[]api.Handle{c, c}, 1, []int{1, 2, 4}},
		{[]api.Handle{b, c, b, c, b}, 2, []int{1, 4}},
		{[]api.Handle{a, d}, 2, []int{2, 3}},
		{[]api.Handle{d, a, {}}, 2, []int{2, 3}},
		{[]api.Handle{handle(0, 2), handle(4, 1), handle(-1, 1)}, 0, []int{1, 2, 3, 4}},
		{[]api.Handle{handle(9, 1), c, handle(2, 0), a, handle(0, 0)}, 2, []int{2, 4}},
		{[]api.Handle{a, b, c, d}, 4, nil},
		{[]api.Handle{d, c, b, a, d}, 4, nil},
	} {
		for _, at := range []int{0, 50, 51, 64, 5000, 1 << 20, 1 << 30} {
			p := newPair(t, 50)
			for i := range 4 {
				p.add(at, i+1)
			}
			p.cancel(x.cancel...)
			if n := 4 - p.w.Len(); n != x.want {
				t.Errorf("Cancel(%v) ended %d, not %d", x.cancel, n, x.want)
			}
			p.cancel(x.cancel...)
			p.stale(x.cancel...)
			p.fires(end, x.left...)
		}
	}
	p := newPair(t, 0)
	if h, k := p.add(1, 1), p.add(2, 2); p.w.Cancel() != 0 || p.w.Cancel(k, h) != 2 {
		t.Error("Cancel of Handles one by one")
	}
}

// P6.1: what was Cancelled does not fire, wherever it lay among others and wherever they went meanwhile.
func TestCancelledNeverFires(t *testing.T) {
	for _, at := range []int{5, 70, 5000, 300000, 1<<24 + 5000, end} {
		for k := range 5 {
			p := newPair(t, 3)
			var hs []api.Handle
			for i := range 5 {
				hs = append(hs, p.add(at, i))
			}
			p.advance(at - 2)
			p.cancel(hs[k])
			p.add(at, 5)
			p.advance(at - 1)
			p.cancel(hs[(k+1)%5], hs[k])
			var want []int
			for i := range 6 {
				if i != k && i != (k+1)%5 {
					want = append(want, i)
				}
			}
			p.fires(at, want...)
		}
	}
}

// W6: Cancel leaves its list as it is, spare room too, and keeps none of it.
func TestCancelLeavesItsList(t *testing.T) {
	p := newPair(t, 0)
	var room []api.Handle
	for i := range 4 {
		room = append(room, p.add(9, i))
	}
	before := slices.Clone(room)
	p.cancel(room[:2]...)
	if !slices.Equal(room, before) {
		t.Errorf("Cancel changed its list: %v", room)
	}
	clear(room)
	p.fires(9, 2, 3)
}

// P6.2: Advance below Now is as Now.
func TestAdvanceBelowNow(t *testing.T) {
	for _, now := range []int{1, 63, 64, 4096, 1 << 24, 1 << 36, end - 1} {
		for _, below := range []int{now, now - 1, now - 64, 0, -1, -end, math.MinInt32, math.MinInt} {
			p := newPair(t, now)
			p.fires(below)
			p.add(now, 1)
			p.add(now+1, 2)
			p.add(0, 3)
			p.fires(below, 3, 1)
			p.fires(below)
			p.fires(now+1, 2)
			p.add(now+1, 4)
			p.fires(below, 4)
		}
	}
}

// P6.2: Advance above MaxTicks is as that.
func TestAdvanceAboveMaxTicks(t *testing.T) {
	for _, now := range []int{0, 63, 64, 4096, 1 << 24, 1 << 36, end - 1, end} {
		for _, above := range []int{end, end + 1, end + 64, 2 * end, 1 << 48, math.MaxInt - 1, math.MaxInt} {
			p := newPair(t, now)
			p.add(end, 1)
			p.add(0, 2)
			p.add(end, 3)
			if now < end {
				p.add(end-1, 4)
				p.fires(above, 2, 4, 1, 3)
			} else {
				p.fires(above, 2, 1, 3)
			}
			if n := p.w.Now(); n != end {
				t.Errorf("behind Advance(%d) Now = %d", above, n)
			}
			p.add(end, 5)
			p.add(0, 6)
			p.fires(above, 6, 5)
		}
	}
}

// P6.2: by none, one, 63, 64, 65 and so on, from times about the edges: those not above Now fire, and no others.
func TestAdvanceBy(t *testing.T) {
	steps := []int{0, 1, 2, 62, 63, 64, 65, 127, 128, 4031, 4095, 4096, 4097, 1<<18 - 1, 1 << 18, 1<<18 + 1,
		1<<24 - 1, 1 << 24, 1<<24 + 1, 1 << 30, 1<<36 + 65, 1 << 39, end}
	for _, now := range nows {
		for _, step := range steps {
			p := newPair(t, now)
			to := min(now+step, end)
			var want []int
			for i, at := range []int{to + 1, to, to - 1, now + 1, now, now - 1, to + 64, (now + to) / 2, to + 4096, to + 1<<24} {
				p.add(min(max(at, 0), end), i)
			}
			for i, x := range p.timers {
				if x.at <= to {
					want = append(want, i)
				}
			}
			got := p.advance(to)
			slices.Sort(got)
			if !slices.Equal(got, want) {
				t.Errorf("from %d Advance(%d) fires %v, not %v", now, to, got, want)
			}
			p.advance(to + 63)
			p.advance(to + 64)
			p.advance(to + 5000)
			p.advance(end)
		}
	}
}

// P6.2, P6.3: tick by tick over the edges of each digit: what is due at a tick fires there, from whatever level it came.
func TestAdvanceTickByTick(t *testing.T) {
	for _, edge := range []int{64, 128, 4096, 8192, 1 << 18, 1 << 24, 3 << 24, 1 << 30, 1 << 36, end - 70} {
		now := max(edge-70, 0)
		p := newPair(t, now)
		for at := now; at <= edge+70; at++ {
			p.add(at, at)
		}
		for at := now; at <= edge+70; at++ {
			p.fires(at, at)
		}
		p.fires(end)
	}
}

// P6.2: those of one time fire in the order in which they were Added, whatever that time is and however Now comes to it.
func TestOrder(t *testing.T) {
	for _, at := range []int{0, 5, 6, 63, 64, 5000, 300000, 1 << 24, 1<<24 + 5, 1 << 36, end} {
		for _, stops := range [][]int{{}, {at - 1}, {at - at%64}, {at - at%4096, at - at%64}, {at / 2, at - 65, at - 1}} {
			p := newPair(t, 5)
			var want []int
			for i := range 20 {
				p.add(at, 100-i)
				p.add(end, 0)
				want = append(want, 100-i)
			}
			for _, stop := range stops {
				if at > 5 && stop < at {
					p.fires(stop)
				}
			}
			if at < end {
				p.fires(at, want...)
			} else {
				p.advance(end)
			}
		}
	}
}

// P6.2: by their times first: the Handles, what they are for, and the order of the Adds come behind that.
func TestOrderByTimes(t *testing.T) {
	p := newPair(t, 10)
	for _, at := range []int{5000, 11, 70, 12, 5001, 300000, 69, 70, 11, 4096, 1 << 24, end, 5000, 1<<24 - 1, 64, 63} {
		p.add(at, at)
	}
	p.fires(end, 11, 11, 12, 63, 64, 69, 70, 70, 4096, 5000, 5000, 5001, 300000, 1<<24-1, 1<<24, end)
}

// P6.2: so they do when they came to that time's place from different levels.
func TestOrderFromLevels(t *testing.T) {
	at := 2<<36 + 3<<30 + 5<<24 + 7<<18 + 9<<12 + 11<<6 + 13
	p := newPair(t, 0)
	for i, c := range []struct{ now, level, slot int }{
		{0, 4, 0}, {2 << 36, 4, 0}, {2<<36 + 3<<30, 4, 0},
		{2<<36 + 3<<30 + 5<<24, 3, 7},
		{2<<36 + 3<<30 + 5<<24 + 7<<18, 2, 9},
		{2<<36 + 3<<30 + 5<<24 + 7<<18 + 9<<12, 1, 11},
		{at - 13, 0, 13}, {at - 1, 0, 13},
	} {
		p.fires(c.now)
		h := p.add(at, i)
		p.at(h, c.level, c.slot)
		p.at(handle(0, 1), c.level, c.slot)
	}
	p.fires(at, 0, 1, 2, 3, 4, 5, 6, 7)
}

// P6.2: a Reset lays a timer behind those of its time, from an earlier time, a later one, and from that time itself.
func TestOrderBehindReset(t *testing.T) {
	for _, at := range []int{8, 100, 5000, 1 << 20, 1 << 30, end} {
		p := newPair(t, 9)
		a, b, c, d := p.add(at, 1), p.add(at, 2), p.add(at, 3), p.add(at-1, 4)
		e := p.add(min(at+1, end), 5)
		p.reset(a, at)
		p.reset(d, at)
		p.reset(c, at)
		p.reset(e, at)
		p.reset(c, at)
		p.advance(at - 1)
		if at == 8 { // not above Now: all of them fired
			continue
		}
		p.reset(a, at)
		p.reset(b, end)
		p.reset(b, at)
		p.fires(at, 4, 5, 3, 1, 2)
	}
	p := newPair(t, 9)
	h := p.add(9, 1)
	p.add(9, 2)
	p.add(4, 3)
	p.reset(h, 9)
	p.add(9, 4)
	p.fires(0, 3, 2, 1, 4)
}

// P6.2: a timer whose time is below Now fires at the next Advance, among the others by its time.
func TestBelowNow(t *testing.T) {
	for _, to := range []int{math.MinInt, 0, 50, 99, 100, 101, 127, 128, 5000, end} {
		p := newPair(t, 100)
		p.add(100, 1)
		p.add(50, 2)
		p.add(101, 3)
		p.add(99, 4)
		p.add(50, 5)
		p.add(0, 6)
		h := p.add(5000, 7)
		p.add(100, 8)
		for _, x := range p.timers {
			if x.at <= 100 {
				p.at(x.h, 0, 36)
			}
		}
		p.reset(h, 99)
		if to > 100 {
			p.fires(to, 6, 2, 5, 4, 7, 1, 8, 3)
		} else {
			p.fires(to, 6, 2, 5, 4, 7, 1, 8)
			p.fires(101, 3)
		}
	}
}

// P6.2: what fired is no more: it does not fire again, at no later time.
func TestFiredIsNoMore(t *testing.T) {
	for _, at := range []int{0, 1, 64, 5000, 1 << 24} {
		p := newPair(t, 0)
		h := p.add(at, 1)
		p.fires(at, 1)
		p.fires(at)
		p.stale(h)
		p.fires(at + 1)
		p.fires(at + 64)
		p.stale(h)
		p.fires(end)
	}
}

// P6.3: each level and each slot, from each digit of Now, whatever the digits below are.
func TestWhere(t *testing.T) {
	for level := range 4 {
		for now := range 64 {
			for slot := now + 1; slot < 64; slot++ {
				above := 3*power(5) + 7*power(level+1)
				p := newPair(t, above+now*power(level)+power(level)-1)
				low := p.add(above+slot*power(level), 1)
				high := p.add(above+slot*power(level)+power(level)-1, 2)
				p.at(low, level, slot)
				p.at(high, level, slot)
			}
		}
	}
	for now := range 200 {
		p := newPair(t, now)
		p.at(p.add(now, 1), 0, now%64)
		p.at(p.add(0, 1), 0, now%64)
		p.at(p.add(now/2, 1), 0, now%64)
	}
}

// P6.3: far is the fourth digit and those above it.
func TestWhereFar(t *testing.T) {
	for _, now := range []int{0, 1, 1<<24 - 1, 5 << 24, 1<<36 + 77} {
		edge := now - now%(1<<24) + 1<<24
		p := newPair(t, now)
		h := p.add(edge-1, 1)
		if now < edge-64 {
			p.at(h, 3, 63)
		}
		for _, at := range []int{edge, edge + 1, edge + 1<<24, edge + 1<<30, edge + 1<<36, end - 1, end} {
			p.at(p.add(at, 2), 4, 0)
		}
	}
	p := newPair(t, end-1)
	p.at(p.add(end, 1), 4, 0)
}

// P6.3: the place goes down a level at each edge of a digit, and not ahead of it.
func TestWhereGoesDown(t *testing.T) {
	p := newPair(t, 0)
	h := p.add(6<<36+5<<24+4<<18+3<<12+2<<6+1, 9)
	k := p.add(6<<36+5<<24+4<<18+3<<12+2<<6+1, 8)
	for _, c := range []struct{ now, level, slot int }{
		{6<<36 - 1, 4, 0},
		{6 << 36, 4, 0},
		{6<<36 + 5<<24 - 1, 4, 0},
		{6<<36 + 5<<24, 3, 4},
		{6<<36 + 5<<24 + 4<<18 - 1, 3, 4},
		{6<<36 + 5<<24 + 4<<18, 2, 3},
		{6<<36 + 5<<24 + 4<<18 + 3<<12 - 1, 2, 3},
		{6<<36 + 5<<24 + 4<<18 + 3<<12, 1, 2},
		{6<<36 + 5<<24 + 4<<18 + 3<<12 + 2<<6 - 1, 1, 2},
		{6<<36 + 5<<24 + 4<<18 + 3<<12 + 2<<6, 0, 1},
	} {
		p.fires(c.now)
		p.at(h, c.level, c.slot)
		p.at(k, c.level, c.slot)
	}
	p.reset(h, 6<<36+5<<24+4<<18+3<<12+5<<6)
	p.at(h, 1, 5)
	p.reset(h, 7<<36)
	p.at(h, 4, 0)
	p.reset(h, 3)
	p.at(h, 0, 0)
	p.fires(6<<36+5<<24+4<<18+3<<12+2<<6+1, 9, 8)
}

// P6.3: Next is the least time of all, of those below Now too; false without a timer.
func TestNext(t *testing.T) {
	p := newPair(t, 100)
	next := func(want int) {
		t.Helper()
		if at, ok := p.w.Next(); at != want || !ok {
			t.Errorf("Next = %d, %v, not %d", at, ok, want)
		}
	}
	a := p.add(end, 1)
	next(end)
	b := p.add(1<<24+9, 2)
	next(1<<24 + 9)
	p.add(1<<24+3, 3)
	next(1<<24 + 3)
	c := p.add(1<<24+6, 4)
	next(1<<24 + 3)
	p.add(4999, 5)
	next(4999)
	p.add(4998, 6)
	p.add(5000, 7)
	next(4998)
	d := p.add(101, 8)
	p.add(100, 9)
	p.add(30, 10)
	p.add(60, 11)
	next(30)
	p.fires(100, 10, 11, 9)
	next(101)
	p.cancel(d)
	next(4998)
	p.fires(4998, 6)
	next(4999)
	p.fires(1<<24-1, 5, 7)
	next(1<<24 + 3)
	p.fires(1<<24+4, 3)
	next(1<<24 + 6)
	p.reset(c, end-1)
	next(1<<24 + 9)
	p.reset(b, 0)
	next(0)
	p.cancel(b, c)
	next(end)
	p.cancel(a)
	if at, ok := p.w.Next(); at != 0 || ok {
		t.Errorf("Next without a timer = %d, %v", at, ok)
	}
}

// P6.3: time 0 is a time, and is told as one.
func TestNextAtZero(t *testing.T) {
	p := newPair(t, 0)
	h := p.add(0, 1)
	if at, ok := p.w.Next(); at != 0 || !ok {
		t.Errorf("Next = %d, %v, not 0, true", at, ok)
	}
	p.cancel(h)
	if at, ok := p.w.Next(); at != 0 || ok {
		t.Errorf("Next = %d, %v, not 0, false", at, ok)
	}
}

// P6.4: several steps tell what one step to the last of them tells, and leave the same.
func TestSteps(t *testing.T) {
	for seed := range 60 {
		d := dice(seed)
		now := nows[d.roll(len(nows))]
		one, many := newPair(t, now), newPair(t, now)
		for i := range 60 {
			at := d.time(now)
			one.add(at, i)
			many.add(at, i)
		}
		to := d.time(now)
		var stops []int
		for range d.roll(12) {
			stops = append(stops, min(d.time(now), to))
		}
		slices.Sort(stops)
		var told []int
		for _, stop := range append(stops, to) {
			told = append(told, many.advance(stop)...)
		}
		one.fires(to, told...)
		for i, x := range one.timers {
			if many.timers[i] != x {
				t.Errorf("several steps leave %v, one %v", many.timers[i], x)
			}
		}
		one.fires(end, many.advance(end)...)
	}
}

// P6.4, P6.2: those of each step are told in that step.
func TestEachStep(t *testing.T) {
	p := newPair(t, 0)
	for i := range 300 {
		p.add(i*i*i, i)
	}
	for i := range 300 {
		if i > 1 {
			p.fires(i*i*i - 1)
		}
		p.fires(i*i*i, i)
	}
}

// W6, W7: what Advance tells is new memory, spare room too.
func TestAnswersAreNewMemory(t *testing.T) {
	p := newPair(t, 0)
	for i := range 12 {
		p.add(10+i%4, i)
		p.add(10, i)
	}
	first := p.advance(10)
	kept := slices.Clone(first)
	second := p.advance(12)
	_ = append(second, -7, -7, -7)
	second = second[:cap(second)]
	for i := range second {
		second[i] = -7
	}
	p.add(13, 12)
	p.fires(13, 3, 7, 11, 12)
	if !slices.Equal(first, kept) {
		t.Errorf("an answer changed behind later calls: %v, not %v", first, kept)
	}
}

// P6.4, W8: of a nil Wheel Add, Reset answer ErrArg, Where ErrStale, all else nothing.
func TestNilWheel(t *testing.T) {
	var w *wheel.Wheel
	for range 2 {
		for _, at := range append([]int{0, 1, 64, end}, noTimes...) {
			if h, err := w.Add(at, 1); h != (api.Handle{}) || err != api.ErrArg {
				t.Errorf("Add(%d) = %v, %v", at, h, err)
			}
			for _, h := range append(strangers(), handle(0, 1)) {
				if err := w.Reset(h, at); err != api.ErrArg {
					t.Errorf("Reset(%v, %d) = %v", h, at, err)
				}
			}
			if l := w.Advance(at); len(l) != 0 {
				t.Errorf("Advance(%d) = %v", at, l)
			}
		}
		for _, h := range append(strangers(), handle(0, 1)) {
			if level, slot, err := w.Where(h); level != 0 || slot != 0 || err != api.ErrStale {
				t.Errorf("Where(%v) = %d, %d, %v", h, level, slot, err)
			}
			if n := w.Cancel(h, h); n != 0 {
				t.Errorf("Cancel(%v) = %d", h, n)
			}
		}
		if at, ok := w.Next(); at != 0 || ok {
			t.Errorf("Next = %d, %v", at, ok)
		}
		if w.Cancel() != 0 || w.Cancel(strangers()...) != 0 || w.Len() != 0 || w.Now() != 0 {
			t.Error("a nil Wheel has something")
		}
	}
}

// W1: a Wheel that New did not make panics as little.
func TestUnmadeWheel(t *testing.T) {
	w := new(wheel.Wheel)
	for _, at := range append([]int{0, 1, 64, end}, noTimes...) {
		w.Add(at, 1)
		for _, h := range append(strangers(), handle(0, 1)) {
			w.Reset(h, at)
			w.Where(h)
			w.Cancel(h)
		}
		w.Advance(at)
		w.Next()
		w.Len()
		w.Now()
	}
}

// W8: a Wheel that was copied as a value goes on, if one of the two is used no more.
func TestCopiedWheel(t *testing.T) {
	p := newPair(t, 60)
	for i, at := range []int{60, 61, 70, 70, 5000, 1 << 20, end} {
		p.add(at, i)
	}
	p.cancel(handle(1, 1))
	w := *p.w
	p.w = &w
	p.hold()
	p.reset(handle(3, 1), 5000)
	p.add(5000, 7)
	p.cancel(handle(2, 1))
	p.fires(4999, 0)
	p.fires(5000, 4, 3, 7)
	p.fires(end, 5, 6)
}

// W2, P0.7: asking changes nothing, however often.
func TestAskingChangesNothing(t *testing.T) {
	p := newPair(t, 60)
	for i, at := range []int{60, 61, 70, 70, 5000, 1 << 20, end, 60, 3} {
		p.add(at, i)
		for range 5 {
			p.hold()
		}
	}
	p.fires(70, 8, 0, 7, 1, 2, 3)
	for range 5 {
		p.hold()
	}
	p.fires(end, 4, 5, 6)
}

// dice are numbers from a fixed rule, the same in each run.
type dice uint64

func (d *dice) roll(n int) int {
	*d = *d*6364136223846793005 + 1442695040888963407
	return int(uint64(*d)>>20) % n
}

// time is one near now most often, at the edge of a digit often, far away sometimes, and below now sometimes.
func (d *dice) time(now int) int {
	step := power(d.roll(5)) * (1 + d.roll(3))
	switch d.roll(6) {
	case 0:
		return min(now-now%step+step, end)
	case 1:
		return min(max(now-d.roll(step), 0), end)
	case 2:
		return min(now+d.roll(4), end)
	case 3:
		return min(now-now%step+step+d.roll(3), end)
	case 4:
		return min(now+d.roll(end)>>d.roll(40), end)
	default:
		return min(now+d.roll(step), end)
	}
}

// known is a Handle of a timer most often, else one that was.
func (p *pair) known(d *dice) api.Handle {
	if len(p.timers) > 0 && (d.roll(5) > 0 || len(p.gone) == 0) {
		return p.timers[d.roll(len(p.timers))].h
	}
	if len(p.gone) > 0 {
		return p.gone[len(p.gone)-1-d.roll(min(len(p.gone), 20))]
	}
	return handle(0, 1)
}

func (p *pair) step(d *dice) {
	switch k := d.roll(20); {
	case k < 8:
		p.add(d.time(p.now), d.roll(1000)-500)
	case k < 12:
		h := p.known(d)
		if p.find(h) < 0 {
			p.stale(h)
		} else if d.roll(4) == 0 {
			p.reset(h, p.timers[p.find(h)].at)
		} else {
			p.reset(h, d.time(p.now))
		}
	case k < 14:
		var hs []api.Handle
		for range d.roll(4) {
			hs = append(hs, p.known(d))
		}
		p.cancel(hs...)
	default:
		p.advance(d.time(p.now))
	}
}

// P6.1 to P6.4: many calls in many orders, held against the words of the document.
func TestBesideModel(t *testing.T) {
	for seed, now := range nows {
		for k := range 3 {
			p := newPair(t, now)
			d := dice(10*seed + k)
			for range 500 {
				p.step(&d)
			}
			p.advance(end)
		}
	}
}

// work is many calls, and all that they answered.
func work(w *wheel.Wheel, d dice) []int {
	var told []int
	var given []api.Handle
	for range 3000 {
		h, err := w.Add(d.time(w.Now()), d.roll(100))
		given = append(given, h)
		told = append(told, h.Slot, h.Gen, int(err))
		some := given[len(given)-1-d.roll(min(len(given), 30))]
		told = append(told, int(w.Reset(some, d.time(w.Now()))))
		told = append(told, w.Cancel(given[d.roll(len(given))], some)%(1+d.roll(3)))
		level, slot, _ := w.Where(h)
		next, _ := w.Next()
		told = append(told, level, slot, next, w.Len())
		told = append(told, w.Advance(w.Now()+d.roll(80))...)
	}
	return told
}

// W2, P0.7: what is answered depends on what was done with that wheel alone, not on others, nor on who works meanwhile.
func TestTwins(t *testing.T) {
	want := work(newWheel(t, 4000), 3)
	got := make([][]int, 4)
	var wait sync.WaitGroup
	for i := range got {
		w := newWheel(t, 4000)
		wait.Go(func() { got[i] = work(w, 3) })
	}
	wait.Wait()
	for i := range got {
		if !slices.Equal(got[i], want) {
			t.Errorf("twin %d is answered otherwise", i)
		}
	}
}
