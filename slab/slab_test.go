package slab_test

import (
	"math"
	"slices"
	"sync"
	"testing"

	"usher/api"
	"usher/slab"
)

// limits are the least and the greatest one, and those about a word of bits.
var limits = []int{1, 2, 3, 63, 64, 65, 128, 1000, api.MaxSlots - 1, api.MaxSlots}

func handle(slot, gen int) api.Handle { return api.Handle{Slot: slot, Gen: gen} }

func newSlab(t *testing.T, limit int) *slab.Slab {
	t.Helper()
	s, err := slab.New(limit)
	if s == nil || err != api.OK {
		t.Fatalf("New(%d) = %v, %v", limit, s, err)
	}
	return s
}

// filled is a slab whose slot i was used once, for the number 100 + i.
func filled(t *testing.T, limit, n int) *slab.Slab {
	t.Helper()
	s := newSlab(t, limit)
	for i := range n {
		holdPut(t, s, 100+i, handle(i, 1))
	}
	return s
}

func holdPut(t *testing.T, s *slab.Slab, v int, want api.Handle) {
	t.Helper()
	if h, err := s.Put(v); h != want || err != api.OK {
		t.Errorf("Put(%d) = %v, %v, not %v", v, h, err, want)
	}
}

func holdFull(t *testing.T, s *slab.Slab) {
	t.Helper()
	if h, err := s.Put(7); h != (api.Handle{}) || err != api.ErrFull {
		t.Errorf("Put into a full slab = %v, %v", h, err)
	}
}

func holdNumber(t *testing.T, s *slab.Slab, h api.Handle, want int) {
	t.Helper()
	if v, err := s.Get(h); v != want || err != api.OK {
		t.Errorf("Get(%v) = %d, %v, not %d", h, v, err, want)
	}
}

// holdStale asks all that a Handle which is not in use can be handed to.
func holdStale(t *testing.T, s *slab.Slab, h api.Handle) {
	t.Helper()
	if v, err := s.Get(h); v != 0 || err != api.ErrStale {
		t.Errorf("Get(%v) = %d, %v, not 0, ErrStale", h, v, err)
	}
	if err := s.Set(h, 9); err != api.ErrStale {
		t.Errorf("Set(%v) = %v, not ErrStale", h, err)
	}
	if n := s.Take(h); n != 0 {
		t.Errorf("Take(%v) = %d, not 0", h, n)
	}
}

func holdAll(t *testing.T, s *slab.Slab, want ...api.Handle) {
	t.Helper()
	if got := s.All(); !slices.Equal(got, want) {
		t.Errorf("All = %v, not %v", got, want)
	}
	if n := s.Len(); n != len(want) {
		t.Errorf("Len = %d, not %d", n, len(want))
	}
}

func holdTake(t *testing.T, s *slab.Slab, want int, h ...api.Handle) {
	t.Helper()
	if n := s.Take(h...); n != want {
		t.Errorf("Take(%v) = %d, not %d", h, n, want)
	}
}

// P2.1: a limit is 1 to MaxSlots.
func TestNew(t *testing.T) {
	for _, limit := range []int{math.MinInt, -api.MaxSlots, -1, 0, api.MaxSlots + 1, 2 * api.MaxSlots, math.MaxInt} {
		if s, err := slab.New(limit); s != nil || err != api.ErrArg {
			t.Errorf("New(%d) = %v, %v, not nil, ErrArg", limit, s, err)
		}
	}
	for _, limit := range limits {
		holdAll(t, newSlab(t, limit))
	}
}

// P2.1: slots come 0 first, each in its first use, until the limit; one more is ErrFull and changes nothing.
func TestPutUntilFull(t *testing.T) {
	for _, limit := range limits {
		s := filled(t, limit, limit)
		before := s.All()
		holdFull(t, s)
		holdFull(t, s)
		holdAll(t, s, before...)
		for i := range limit {
			holdNumber(t, s, handle(i, 1), 100+i)
		}
		holdStale(t, s, handle(limit, 1))
	}
}

// P2.1: what was taken of a full slab is free again, slot by slot, and no more than that.
func TestPutBehindFull(t *testing.T) {
	for _, limit := range limits {
		s := filled(t, limit, limit)
		for i := range limit {
			holdTake(t, s, 1, handle(i, 1))
			holdPut(t, s, -i, handle(i, 2))
			holdFull(t, s)
			holdNumber(t, s, handle(i, 2), -i)
		}
		last := handle(limit-1, 2)
		holdTake(t, s, 1, last)
		holdPut(t, s, 5, handle(limit-1, 3))
		holdFull(t, s)
	}
}

// P2.1: the least free slot, in whatever order they were freed, ahead of those that were never used.
func TestPutLeastFree(t *testing.T) {
	for _, freed := range [][]int{
		{0}, {9}, {5, 2, 70}, {70, 5, 2}, {2, 5, 70}, {63, 64, 65}, {65, 64, 63}, {0, 129}, {128, 127, 64, 0},
	} {
		s := filled(t, 140, 130)
		for _, i := range freed {
			holdTake(t, s, 1, handle(i, 1))
		}
		for _, i := range slices.Sorted(slices.Values(freed)) {
			holdPut(t, s, i, handle(i, 2))
		}
		holdPut(t, s, 0, handle(130, 1))
		holdPut(t, s, 0, handle(131, 1))
	}
}

// P2.1: a lesser slot that comes free between two Puts is the next one.
func TestPutLeastFreeBetween(t *testing.T) {
	s := filled(t, 10, 6)
	holdTake(t, s, 1, handle(4, 1))
	holdTake(t, s, 1, handle(2, 1))
	holdPut(t, s, 0, handle(2, 2))
	holdTake(t, s, 1, handle(1, 1))
	holdPut(t, s, 0, handle(1, 2))
	holdPut(t, s, 0, handle(4, 2))
	holdPut(t, s, 0, handle(6, 1))
	holdAll(t, s, handle(0, 1), handle(1, 2), handle(2, 2), handle(3, 1), handle(4, 2), handle(5, 1), handle(6, 1))
}

// P2.1: all are taken, and the slots begin at 0 again, each with a Gen of its own.
func TestPutBehindTakeOfAll(t *testing.T) {
	s := filled(t, 5, 2)
	holdTake(t, s, 2, s.All()...)
	holdAll(t, s)
	holdPut(t, s, 1, handle(0, 2))
	holdPut(t, s, 2, handle(1, 2))
	holdPut(t, s, 3, handle(2, 1))
	holdTake(t, s, 3, s.All()...)
	holdPut(t, s, 4, handle(0, 3))
	holdPut(t, s, 5, handle(1, 3))
	holdPut(t, s, 6, handle(2, 2))
	holdPut(t, s, 7, handle(3, 1))
}

// P2.1: a Gen counts the uses of its own slot, and nothing besides: no Set, no Get, no Take of a stale one, no ErrFull.
func TestGenCountsUses(t *testing.T) {
	s := filled(t, 2, 2)
	for gen := 1; gen <= 3000; gen++ {
		h := handle(1, gen)
		holdFull(t, s)
		if err := s.Set(h, gen); err != api.OK {
			t.Errorf("Set(%v) = %v", h, err)
		}
		holdNumber(t, s, h, gen)
		holdStale(t, s, handle(1, gen-1))
		holdStale(t, s, handle(1, gen+1))
		holdTake(t, s, 1, h)
		holdStale(t, s, h)
		holdStale(t, s, handle(1, gen+1))
		holdPut(t, s, -gen, handle(1, gen+1))
		holdNumber(t, s, handle(0, 1), 100)
	}
}

// The chapter's example, and what it leaves.
func TestExample(t *testing.T) {
	s := newSlab(t, 3)
	holdPut(t, s, 7, handle(0, 1))
	holdPut(t, s, 8, handle(1, 1))
	holdTake(t, s, 1, handle(0, 1))
	holdPut(t, s, 9, handle(0, 2))
	holdStale(t, s, handle(0, 1))
	holdNumber(t, s, handle(0, 2), 9)
	holdNumber(t, s, handle(1, 1), 8)
	holdAll(t, s, handle(0, 2), handle(1, 1))
}

// P2.2: Get is the number that was laid last, by Put or Set, into that slot alone; any number may be.
func TestGetAndSet(t *testing.T) {
	numbers := []int{0, 1, -1, 4096, math.MaxInt, math.MinInt, 1 << 40, -7}
	s := newSlab(t, len(numbers))
	for i, v := range numbers {
		holdPut(t, s, v, handle(i, 1))
	}
	for i, v := range numbers {
		holdNumber(t, s, handle(i, 1), v)
		holdNumber(t, s, handle(i, 1), v)
	}
	for i := range numbers {
		for _, v := range numbers {
			if err := s.Set(handle(i, 1), v); err != api.OK {
				t.Errorf("Set of slot %d = %v", i, err)
			}
			holdNumber(t, s, handle(i, 1), v)
		}
		for k := range numbers {
			want := numbers[k]
			if k <= i {
				want = -7
			}
			holdNumber(t, s, handle(k, 1), want)
		}
	}
	if s.Len() != len(numbers) {
		t.Errorf("Len = %d behind Sets", s.Len())
	}
}

// P2.2: a slot that is used again has its new number, whatever the elder one was.
func TestNumberOfUsedAgain(t *testing.T) {
	s := newSlab(t, 1)
	holdPut(t, s, 5, handle(0, 1))
	s.Set(handle(0, 1), 6)
	holdTake(t, s, 1, handle(0, 1))
	holdPut(t, s, 0, handle(0, 2))
	holdNumber(t, s, handle(0, 2), 0)
}

// strangers are Handles that a slab of 70, with its first 66 slots in their first use but 3 and 64, never gave or has taken.
func strangers() []api.Handle {
	l := []api.Handle{{}, handle(3, 0), handle(3, 1), handle(3, 2), handle(64, 0), handle(64, 1), handle(64, 2)}
	for _, slot := range []int{-1, -64, -65, math.MinInt, 66, 69, 70, 71, 127, 128, api.MaxSlots - 1, api.MaxSlots, api.MaxSlots + 1, math.MaxInt} {
		for _, gen := range []int{-1, 0, 1, 2, math.MaxInt, math.MinInt} {
			l = append(l, handle(slot, gen))
		}
	}
	for _, slot := range []int{0, 1, 63, 65} {
		for _, gen := range []int{0, -1, 2, 1 + 1<<32, math.MaxInt, math.MinInt} {
			l = append(l, handle(slot, gen))
		}
	}
	return l
}

// P2.2: a Handle that was taken, that was never given, or whose slot or Gen is none, is stale, and nothing changes.
func TestStaleHandles(t *testing.T) {
	s := filled(t, 70, 66)
	holdTake(t, s, 2, handle(3, 1), handle(64, 1))
	before := s.All()
	for _, h := range strangers() {
		holdStale(t, s, h)
	}
	holdTake(t, s, 0, strangers()...)
	holdAll(t, s, before...)
	for _, h := range before {
		holdNumber(t, s, h, 100+h.Slot)
	}
	holdPut(t, s, 1, handle(3, 2))
	holdPut(t, s, 2, handle(64, 2))
	holdPut(t, s, 3, handle(66, 1))
}

// P2.2: of a slab that never had a slot in use each Handle is stale, that of its next Put too.
func TestStaleInEmpty(t *testing.T) {
	for _, limit := range limits {
		s := newSlab(t, limit)
		for _, h := range append(strangers(), handle(0, 1)) {
			holdStale(t, s, h)
		}
		holdAll(t, s)
		holdPut(t, s, 1, handle(0, 1))
	}
}

// P2.2: Take of none, of one twice, of several at once. Ways: Take is variadic.
func TestTake(t *testing.T) {
	var zero api.Handle
	for _, c := range []struct {
		take []api.Handle
		want int
		left []int
	}{
		{nil, 0, []int{0, 1, 2, 3}},
		{[]api.Handle{}, 0, []int{0, 1, 2, 3}},
		{[]api.Handle{zero}, 0, []int{0, 1, 2, 3}},
		{[]api.Handle{handle(2, 1)}, 1, []int{0, 1, 3}},
		{[]api.Handle{handle(2, 1), handle(2, 1)}, 1, []int{0, 1, 3}},
		{[]api.Handle{handle(2, 1), handle(2, 2), handle(2, 1)}, 1, []int{0, 1, 3}},
		{[]api.Handle{handle(0, 1), handle(1, 1), handle(2, 1), handle(3, 1)}, 4, []int{}},
		{[]api.Handle{handle(3, 1), handle(0, 1), handle(3, 1), handle(0, 1)}, 2, []int{1, 2}},
		{[]api.Handle{handle(9, 1), handle(3, 1), handle(3, 0), zero, handle(-1, 1), handle(1, 1)}, 2, []int{0, 2}},
		{[]api.Handle{handle(3, 2), handle(2, 2), handle(4, 1)}, 0, []int{0, 1, 2, 3}},
	} {
		s := filled(t, 5, 4)
		holdTake(t, s, c.want, c.take...)
		var left []api.Handle
		for _, i := range c.left {
			left = append(left, handle(i, 1))
			holdNumber(t, s, handle(i, 1), 100+i)
		}
		holdAll(t, s, left...)
		holdTake(t, s, 0, c.take...)
		holdAll(t, s, left...)
	}
	if s := filled(t, 3, 3); s.Take() != 0 || s.Take(handle(2, 1), handle(0, 1)) != 2 || s.Len() != 1 {
		t.Error("Take of Handles one by one")
	}
}

// W6: Take leaves its list as it is, spare room too, and keeps none of it.
func TestTakeLeavesItsList(t *testing.T) {
	s := filled(t, 5, 5)
	room := []api.Handle{handle(4, 1), handle(1, 1), handle(2, 1), handle(3, 1)}
	before := slices.Clone(room)
	holdTake(t, s, 2, room[:2]...)
	if !slices.Equal(room, before) {
		t.Errorf("Take changed its list: %v", room)
	}
	clear(room)
	holdAll(t, s, handle(0, 1), handle(2, 1), handle(3, 1))
}

// P2.2: All is by slots, whatever the order of Put and Take; Len is how many.
func TestAllBySlots(t *testing.T) {
	s := filled(t, api.MaxSlots, 200)
	for i := 199; i >= 0; i -= 2 {
		holdTake(t, s, 1, handle(i, 1))
	}
	for i := 1; i < 60; i += 2 {
		holdPut(t, s, 0, handle(i, 2))
	}
	var want []api.Handle
	for i := range 200 {
		switch {
		case i%2 == 0:
			want = append(want, handle(i, 1))
		case i < 60:
			want = append(want, handle(i, 2))
		}
	}
	holdAll(t, s, want...)
}

// W6, W7: each All is new memory, spare room too: nothing that is done with it, or behind it, is to be seen elsewhere.
func TestAllIsNewMemory(t *testing.T) {
	s := filled(t, 9, 4)
	first, second := s.All(), s.All()
	kept := slices.Clone(second)
	_ = append(first, handle(8, 8))
	clear(first[:cap(first)])
	if !slices.Equal(second, kept) {
		t.Errorf("one answer shares memory with another: %v", second)
	}
	holdAll(t, s, kept...)
	holdTake(t, s, 1, handle(0, 1))
	holdPut(t, s, 0, handle(0, 2))
	holdPut(t, s, 0, handle(4, 1))
	if !slices.Equal(second, kept) {
		t.Errorf("an answer changed behind later calls: %v", second)
	}
	holdAll(t, s, handle(0, 2), handle(1, 1), handle(2, 1), handle(3, 1), handle(4, 1))
}

// P2.3: a Handle that was taken is never in use again, however often its slot is.
func TestTakenNeverInUseAgain(t *testing.T) {
	s := newSlab(t, 3)
	var taken []api.Handle
	for round := range 200 {
		for range 1 + round%3 {
			if _, err := s.Put(round); err != api.OK {
				t.Fatalf("Put = %v", err)
			}
		}
		given := s.All()
		for _, h := range given {
			if slices.Contains(taken, h) {
				t.Errorf("%v is given once more", h)
			}
		}
		for _, h := range taken {
			holdStale(t, s, h)
		}
		holdTake(t, s, len(given), given...)
		taken = append(taken, given...)
	}
}

// P2.3: of a nil Slab Put, Set answer ErrArg, Get ErrStale, all else nothing.
func TestNilSlab(t *testing.T) {
	var s *slab.Slab
	for range 2 {
		for _, v := range []int{0, 1, math.MinInt, math.MaxInt} {
			if h, err := s.Put(v); h != (api.Handle{}) || err != api.ErrArg {
				t.Errorf("Put(%d) = %v, %v", v, h, err)
			}
		}
		for _, h := range append(strangers(), handle(0, 1), handle(1, 1)) {
			if v, err := s.Get(h); v != 0 || err != api.ErrStale {
				t.Errorf("Get(%v) = %d, %v", h, v, err)
			}
			if err := s.Set(h, 1); err != api.ErrArg {
				t.Errorf("Set(%v) = %v", h, err)
			}
			if n := s.Take(h, h); n != 0 {
				t.Errorf("Take(%v) = %d", h, n)
			}
		}
		if s.Take() != 0 || s.Take(strangers()...) != 0 || s.Len() != 0 || len(s.All()) != 0 {
			t.Error("a nil Slab has something")
		}
	}
}

// W1: a Slab that New did not make panics as little.
func TestUnmadeSlab(t *testing.T) {
	s := new(slab.Slab)
	s.Put(1)
	for _, h := range append(strangers(), handle(0, 1)) {
		s.Get(h)
		s.Set(h, 1)
		s.Take(h)
	}
	s.Len()
	s.All()
}

// W8: a Slab that was copied as a value goes on, if one of the two is used no more.
func TestCopiedSlab(t *testing.T) {
	old := filled(t, 70, 65)
	old.Take(handle(2, 1))
	s := *old
	holdPut(t, &s, 5, handle(2, 2))
	holdPut(t, &s, 6, handle(65, 1))
	holdTake(t, &s, 1, handle(64, 1))
	holdNumber(t, &s, handle(65, 1), 6)
	holdStale(t, &s, handle(2, 1))
	if s.Len() != 65 {
		t.Errorf("Len = %d", s.Len())
	}
}

// dice are numbers from a fixed rule, the same in each run.
type dice uint64

func (d *dice) roll(n int) int {
	*d = *d*6364136223846793005 + 1442695040888963407
	return int(uint64(*d)>>33) % n
}

// model is a slab as the document words it, and no faster.
type model struct {
	limit int
	uses  []int
	in    map[int]int // numbers by slots
}

func (m *model) put(v int) (api.Handle, api.Errno) {
	if len(m.in) == m.limit {
		return api.Handle{}, api.ErrFull
	}
	for i := range m.limit {
		if _, ok := m.in[i]; !ok {
			m.uses[i]++
			m.in[i] = v
			return handle(i, m.uses[i]), api.OK
		}
	}
	panic("neither full nor free")
}

func (m *model) inUse(h api.Handle) bool {
	_, ok := m.in[h.Slot]
	return ok && m.uses[h.Slot] == h.Gen
}

func (m *model) all() []api.Handle {
	l := []api.Handle{}
	for i := range m.limit {
		if _, ok := m.in[i]; ok {
			l = append(l, handle(i, m.uses[i]))
		}
	}
	return l
}

// beside holds a slab against the model, step by step.
type beside struct {
	t *testing.T
	s *slab.Slab
	m model
	d dice
}

func newBeside(t *testing.T, limit, seed int) *beside {
	return &beside{t, newSlab(t, limit), model{limit, make([]int, limit), map[int]int{}}, dice(seed)}
}

func (b *beside) some() api.Handle { return handle(b.d.roll(b.m.limit+2)-1, b.d.roll(4)+b.gen()) }

func (b *beside) gen() int {
	if b.d.roll(3) == 0 {
		return 0
	}
	return slices.Max(b.m.uses) - 2
}

// known is one in use, most often: by chance alone few would be met.
func (b *beside) known() api.Handle {
	if all := b.m.all(); len(all) > 0 && b.d.roll(5) > 0 {
		return all[b.d.roll(len(all))]
	}
	return b.some()
}

func (b *beside) put() {
	v := b.d.roll(1000) - 500
	h, err := b.s.Put(v)
	if want, e := b.m.put(v); h != want || err != e {
		b.t.Fatalf("Put(%d) = %v, %v, not %v, %v", v, h, err, want, e)
	}
}

func (b *beside) set() {
	h, v := b.known(), b.d.roll(1000)-500
	want := api.ErrStale
	if b.m.inUse(h) {
		b.m.in[h.Slot] = v
		want = api.OK
	}
	if err := b.s.Set(h, v); err != want {
		b.t.Fatalf("Set(%v, %d) = %v, not %v", h, v, err, want)
	}
}

func (b *beside) take() {
	var l []api.Handle
	for range b.d.roll(4) {
		l = append(l, b.known())
	}
	want := 0
	for _, h := range l {
		if b.m.inUse(h) {
			delete(b.m.in, h.Slot)
			want++
		}
	}
	if n := b.s.Take(l...); n != want {
		b.t.Fatalf("Take(%v) = %d, not %d", l, n, want)
	}
}

func (b *beside) ask() {
	all := b.m.all()
	if got := b.s.All(); !slices.Equal(got, all) || b.s.Len() != len(all) {
		b.t.Fatalf("All = %v, Len = %d, not %v", got, b.s.Len(), all)
	}
	for _, h := range append(all, b.some(), b.some()) {
		want, e := 0, api.ErrStale
		if b.m.inUse(h) {
			want, e = b.m.in[h.Slot], api.OK
		}
		if v, err := b.s.Get(h); v != want || err != e {
			b.t.Fatalf("Get(%v) = %d, %v, not %d, %v", h, v, err, want, e)
		}
	}
}

func (b *beside) step() {
	switch b.d.roll(6) {
	case 0, 1, 2:
		b.put()
	case 3:
		b.set()
	default:
		b.take()
	}
	b.ask()
}

// P2.1 to P2.3: many calls in many orders, held against the words of the document.
func TestBesideModel(t *testing.T) {
	for seed, limit := range []int{1, 2, 3, 7, 64, 66, 130} {
		for k := range 4 {
			b := newBeside(t, limit, 10*seed+k)
			for range 600 {
				b.step()
			}
		}
	}
}

// W2, P0.7: what is answered depends on what was done with that slab alone, not on others, nor on who works meanwhile.
func TestTwins(t *testing.T) {
	work := func(s *slab.Slab) []api.Handle {
		var told []api.Handle
		d := dice(3)
		for range 2000 {
			if h, err := s.Put(d.roll(9)); err == api.OK {
				told = append(told, h)
			}
			s.Take(told[d.roll(len(told))])
			told = append(told, s.All()...)
			told = told[max(0, len(told)-400):]
		}
		return told
	}
	want := work(newSlab(t, 80))
	got := make([][]api.Handle, 4)
	var wait sync.WaitGroup
	for i := range got {
		s := newSlab(t, 80)
		wait.Go(func() { got[i] = work(s) })
	}
	wait.Wait()
	for i := range got {
		if !slices.Equal(got[i], want) {
			t.Errorf("twin %d is answered otherwise", i)
		}
	}
}
