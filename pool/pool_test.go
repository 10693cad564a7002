package pool_test

import (
	"bytes"
	"math"
	"slices"
	"sync"
	"testing"

	"usher/api"
	"usher/pool"
	"usher/ring"
)

// amounts are how many rings a pool may have: the least and the greatest, and some between.
var amounts = []int{0, 1, 2, 3, 63, 64, 65, 1000, api.MaxSlots - 1, api.MaxSlots}

// sizes are those that a ring may have: the least and the greatest, and some between.
var sizes = []int{1, 2, 3, 8, 64, api.RingSize, api.MaxRing - 1, api.MaxRing}

// wrongAmounts are none, those among them that would be one if they lost bits.
var wrongAmounts = []int{-1, -2, -api.MaxSlots, math.MinInt32, math.MinInt, api.MaxSlots + 1, 2 * api.MaxSlots, api.MaxRing, 1 << 32, 1<<32 + 1, math.MaxInt}

// wrongSizes are none, those among them that would be one if they lost bits.
var wrongSizes = []int{0, -1, -2, -api.MaxRing, math.MinInt32, math.MinInt, api.MaxRing + 1, 2 * api.MaxRing, 1<<32 + 1, math.MaxInt}

// strangers are numbers that no ring of a pool of so many has.
func strangers(rings int) []int {
	l := []int{-1, -2, -rings - 1, -api.MaxSlots, math.MinInt32, math.MinInt + 1, math.MinInt}
	return append(l, rings, rings+1, rings+64, 2*rings+1, 2*api.MaxSlots, 1<<16, 1<<31, 1<<32, math.MaxInt-1, math.MaxInt)
}

func newPool(t *testing.T, rings, size int) *pool.Pool {
	t.Helper()
	p, err := pool.New(rings, size)
	if p == nil || err != api.OK {
		t.Fatalf("New(%d, %d) = %v, %v", rings, size, p, err)
	}
	holdLent(t, p, 0, 0)
	return p
}

// lending is a pool of so many rings of 8 bytes, the first n of which are lent.
func lending(t *testing.T, rings, n int) *pool.Pool {
	t.Helper()
	p := newPool(t, rings, 8)
	for i := range n {
		holdGet(t, p, i, 8)
	}
	return p
}

func holdLent(t *testing.T, p *pool.Pool, now, most int) {
	t.Helper()
	if n, m := p.Lent(); n != now || m != most {
		t.Errorf("Lent = %d, %d, not %d, %d", n, m, now, most)
	}
}

// holdRing is about a ring that holds a text, and no more.
func holdRing(t *testing.T, r *ring.Ring, size int, text []byte) {
	t.Helper()
	if r.Len() != len(text) || r.Room() != size-len(text) || !bytes.Equal(r.Peek(size), text) {
		t.Errorf("a ring of %d, %d with %.40q, not of %d with %.40q", r.Len(), r.Room(), r.Peek(size), size, text)
	}
}

// holdGet is about a ring that is lent: it is that number's, empty and of the whole size.
func holdGet(t *testing.T, p *pool.Pool, want, size int) *ring.Ring {
	t.Helper()
	n, r, err := p.Get()
	if n != want || r == nil || err != api.OK {
		t.Errorf("Get = %d, %v, %v, not %d", n, r, err, want)
	}
	holdRing(t, r, size, nil)
	return r
}

// holdFull asks for one ring more than there are.
func holdFull(t *testing.T, p *pool.Pool) {
	t.Helper()
	now, most := p.Lent()
	if n, r, err := p.Get(); n != 0 || r != nil || err != api.ErrFull {
		t.Errorf("Get of a pool that lends all = %d, %v, %v", n, r, err)
	}
	holdLent(t, p, now, most)
}

func holdPut(t *testing.T, p *pool.Pool, want int, n ...int) {
	t.Helper()
	if got := p.Put(n...); got != want {
		t.Errorf("Put(%v) = %d, not %d", n, got, want)
	}
}

func holdWrite(t *testing.T, r *ring.Ring, text []byte) {
	t.Helper()
	if n := r.Write(text); n != len(text) {
		t.Errorf("Write of %d bytes = %d", len(text), n)
	}
}

// bytesFrom are n bytes, each the one behind its neighbour.
func bytesFrom(first, n int) []byte {
	b := make([]byte, n)
	for i := range b {
		b[i] = byte(first + i)
	}
	return b
}

// P4.1: rings are 0 to MaxSlots, and a size is 1 to MaxRing.
func TestNew(t *testing.T) {
	hold := func(rings, size int) {
		if p, err := pool.New(rings, size); p != nil || err != api.ErrArg {
			t.Errorf("New(%d, %d) = %v, %v, not nil, ErrArg", rings, size, p, err)
		}
	}
	for _, rings := range wrongAmounts {
		for _, size := range slices.Concat(sizes, wrongSizes) {
			hold(rings, size)
		}
	}
	for _, size := range wrongSizes {
		for _, rings := range amounts {
			hold(rings, size)
		}
	}
	for _, rings := range amounts {
		for _, size := range sizes {
			newPool(t, rings, size)
		}
	}
}

// The chapter's example, and what it leaves.
func TestExample(t *testing.T) {
	p := newPool(t, 2, 8)
	holdGet(t, p, 0, 8)
	holdGet(t, p, 1, 8)
	holdPut(t, p, 1, 0)
	holdGet(t, p, 0, 8)
	holdFull(t, p)
	holdLent(t, p, 2, 2)
}

// P4.1, P4.2: numbers come 0 first, until all are lent; one more is ErrFull, however often, and changes nothing.
func TestGetUntilFull(t *testing.T) {
	for _, rings := range amounts {
		p := newPool(t, rings, 2)
		for i := range rings {
			holdGet(t, p, i, 2)
			holdLent(t, p, i+1, i+1)
		}
		holdFull(t, p)
		holdFull(t, p)
		holdPut(t, p, 0, rings)
		holdFull(t, p)
	}
}

// P4.1: a pool of no ring lends none, and takes none back.
func TestPoolOfNoRing(t *testing.T) {
	for _, size := range sizes {
		p := newPool(t, 0, size)
		for range 2 {
			holdFull(t, p)
			holdPut(t, p, 0)
			holdPut(t, p, 0, append(strangers(0), 0, 1)...)
			holdLent(t, p, 0, 0)
		}
	}
}

// P4.1: of a pool that lends all, what came back can be had again, ring by ring, and no more than that.
func TestGetBehindFull(t *testing.T) {
	for _, rings := range amounts[1:] {
		p := lending(t, rings, rings)
		for i := range rings {
			holdPut(t, p, 1, i)
			holdLent(t, p, rings-1, rings)
			holdGet(t, p, i, 8)
			holdLent(t, p, rings, rings)
		}
		holdFull(t, p)
		holdPut(t, p, 1, rings-1)
		holdPut(t, p, 0, rings-1)
		holdGet(t, p, rings-1, 8)
		holdFull(t, p)
	}
}

// orders calls f with each order of the numbers of l; it changes l meanwhile.
func orders(l []int, k int, f func([]int)) {
	if k == len(l) {
		f(l)
		return
	}
	for i := k; i < len(l); i++ {
		l[k], l[i] = l[i], l[k]
		orders(l, k+1, f)
		l[k], l[i] = l[i], l[k]
	}
}

// P4.1: the least free number is next, in whatever order the rings came back, one by one or all in one call.
func TestLeastFreeBehindPuts(t *testing.T) {
	for k := range 6 {
		for one := range 2 {
			orders([]int{4, 2, 0, 5, 3, 1}, 0, func(l []int) {
				p := lending(t, 6, 6)
				if back := l[:k]; one == 0 {
					holdPut(t, p, k, back...)
				} else {
					for _, n := range back {
						holdPut(t, p, 1, n)
					}
				}
				holdLent(t, p, 6-k, 6)
				for _, n := range slices.Sorted(slices.Values(l[:k])) {
					holdGet(t, p, n, 8)
				}
				holdFull(t, p)
			})
		}
	}
}

// P4.1: a number that came back between Gets is the next one, ahead of those that were never lent.
func TestLeastFreeBetween(t *testing.T) {
	p := lending(t, 100, 70)
	holdPut(t, p, 1, 66)
	holdPut(t, p, 1, 2)
	holdGet(t, p, 2, 8)
	holdPut(t, p, 1, 65)
	holdPut(t, p, 1, 0)
	for _, n := range []int{0, 65, 66, 70, 71} {
		holdGet(t, p, n, 8)
	}
	holdPut(t, p, 1, 71)
	holdGet(t, p, 71, 8)
	holdLent(t, p, 72, 72)
}

// P4.1: Put of none, of several, of one twice, of what is not lent. Ways: Put is variadic.
func TestPut(t *testing.T) {
	for _, c := range []struct {
		put  []int
		want int
		next []int // the numbers that can be had behind it, of 6 rings whose first four were lent
	}{
		{nil, 0, []int{4, 5}},
		{[]int{}, 0, []int{4, 5}},
		{[]int{0}, 1, []int{0, 4, 5}},
		{[]int{2}, 1, []int{2, 4, 5}},
		{[]int{3}, 1, []int{3, 4, 5}},
		{[]int{2, 2}, 1, []int{2, 4, 5}},
		{[]int{2, 2, 1, 2, 1}, 2, []int{1, 2, 4, 5}},
		{[]int{3, 0}, 2, []int{0, 3, 4, 5}},
		{[]int{0, 1, 2, 3}, 4, []int{0, 1, 2, 3, 4, 5}},
		{[]int{3, 2, 1, 0, 0, 1, 2, 3}, 4, []int{0, 1, 2, 3, 4, 5}},
		{[]int{4}, 0, []int{4, 5}},
		{[]int{5, 4, 5}, 0, []int{4, 5}},
		{[]int{-1}, 0, []int{4, 5}},
		{[]int{6}, 0, []int{4, 5}},
		{[]int{7}, 0, []int{4, 5}},
		{[]int{-1, 3, 6, 4, 1, -4}, 2, []int{1, 3, 4, 5}},
		{strangers(6), 0, []int{4, 5}},
		{append(strangers(6), 0), 1, []int{0, 4, 5}},
	} {
		p := lending(t, 6, 4)
		holdPut(t, p, c.want, c.put...)
		holdLent(t, p, 4-c.want, 4)
		holdPut(t, p, 0, c.put...)
		holdLent(t, p, 4-c.want, 4)
		for _, n := range c.next {
			holdGet(t, p, n, 8)
		}
		holdFull(t, p)
	}
	if p := lending(t, 3, 3); p.Put() != 0 || p.Put(1) != 1 || p.Put(2, 0) != 2 {
		t.Error("Put of numbers one by one")
	}
}

// P4.1: numbers that no ring has take nothing back, of the least and the greatest pools too.
func TestPutOfStrangers(t *testing.T) {
	for _, rings := range amounts {
		p := lending(t, rings, rings)
		for _, n := range strangers(rings) {
			holdPut(t, p, 0, n)
			holdPut(t, p, 0, n, n)
		}
		holdPut(t, p, 0, strangers(rings)...)
		holdLent(t, p, rings, rings)
		holdFull(t, p)
	}
}

// P4.1: what was never lent, or came back, is not taken back, and is lent by its number later.
func TestPutOfWhatIsNotLent(t *testing.T) {
	p := newPool(t, 3, 8)
	holdPut(t, p, 0, 0, 1, 2)
	holdLent(t, p, 0, 0)
	holdGet(t, p, 0, 8)
	holdPut(t, p, 0, 1, 2)
	holdPut(t, p, 1, 0)
	holdPut(t, p, 0, 0)
	holdLent(t, p, 0, 1)
	for i := range 3 {
		holdGet(t, p, i, 8)
	}
	holdFull(t, p)
}

// W6: Put leaves its list as it is, spare room too, and keeps none of it.
func TestPutLeavesItsList(t *testing.T) {
	p := lending(t, 5, 5)
	room := []int{3, 1, 1, 0, 2}
	before := slices.Clone(room)
	holdPut(t, p, 2, room[:3]...)
	if !slices.Equal(room, before) {
		t.Errorf("Put changed its list: %v", room)
	}
	clear(room)
	holdGet(t, p, 1, 8)
	holdGet(t, p, 3, 8)
	holdFull(t, p)
}

// P4.1: Lent is how many are lent and how many ever were at once, behind every call; the second is never less than it was.
func TestLent(t *testing.T) {
	p := newPool(t, 5, 8)
	for _, c := range []struct {
		get, put  []int
		now, most int
	}{
		{[]int{0}, nil, 1, 1},
		{nil, []int{0}, 0, 1},
		{[]int{0}, nil, 1, 1},
		{nil, []int{0, 0}, 0, 1},
		{[]int{0, 1, 2}, nil, 3, 3},
		{nil, []int{1}, 2, 3},
		{[]int{1}, nil, 3, 3},
		{nil, []int{0, 2}, 1, 3},
		{[]int{0}, nil, 2, 3},
		{nil, []int{2, 3, 4, 5, -1}, 2, 3},
		{[]int{2, 3}, nil, 4, 4},
		{nil, []int{0, 1, 2, 3}, 0, 4},
		{[]int{0, 1, 2, 3}, nil, 4, 4},
		{[]int{4}, nil, 5, 5},
		{nil, []int{4, 3, 2, 1, 0}, 0, 5},
		{nil, nil, 0, 5},
	} {
		for _, n := range c.get {
			holdGet(t, p, n, 8)
		}
		p.Put(c.put...)
		holdLent(t, p, c.now, c.most)
		holdLent(t, p, c.now, c.most)
	}
}

// P4.1: a ring has the pool's whole size: it takes that many bytes, and not one more.
func TestRingOfWholeSize(t *testing.T) {
	for _, size := range sizes {
		p := newPool(t, 2, size)
		for i := range 2 {
			r := holdGet(t, p, i, size)
			text := bytesFrom(i, size)
			if n := r.Write(text, []byte("x")); n != size {
				t.Errorf("a ring of %d took %d bytes", size, n)
			}
			holdRing(t, r, size, text)
		}
	}
}

// P4.2: a ring that came back with bytes in it, wherever they lay, is empty and of the whole size when it is lent anew.
func TestRingIsEmptyAnew(t *testing.T) {
	for _, size := range sizes {
		p := newPool(t, 3, size)
		holdGet(t, p, 0, size)
		for _, gone := range []int{0, 1, size / 2, size - 1, size} {
			for _, left := range []int{0, 1, size / 2, size} {
				r := holdGet(t, p, 1, size)
				holdWrite(t, r, bytesFrom(200, gone))
				r.Skip(gone)
				holdWrite(t, r, bytesFrom(100, left))
				holdPut(t, p, 1, 1)
				r = holdGet(t, p, 1, size)
				if i := r.Find(100); i != -1 {
					t.Errorf("a byte of who had the ring before stands at %d", i)
				}
				holdWrite(t, r, bytesFrom(50, size))
				holdRing(t, r, size, bytesFrom(50, size))
				holdPut(t, p, 1, 1)
			}
		}
		holdLent(t, p, 1, 2)
	}
}

// P4.2: rings that are lent at once have nothing to do with each other, nor with those of another pool.
func TestRingsApart(t *testing.T) {
	const rings, size = 5, 9
	var all []*ring.Ring
	for range 2 {
		p := newPool(t, rings, size)
		for i := range rings {
			all = append(all, holdGet(t, p, i, size))
		}
	}
	texts := make([][]byte, len(all))
	hold := func() {
		for i, r := range all {
			holdRing(t, r, size, texts[i])
		}
	}
	for i, r := range all {
		texts[i] = bytesFrom(20*i, size-i%3)
		holdWrite(t, r, texts[i])
		hold()
	}
	for i, r := range all {
		r.Skip(1 + i%4)
		texts[i] = append(texts[i][1+i%4:], '!')
		holdWrite(t, r, []byte("!"))
		hold()
	}
}

// P4.2: what comes back and is lent anew leaves the rings that stayed lent as they are.
func TestPutLeavesOtherRings(t *testing.T) {
	p := newPool(t, 4, 8)
	var stay []*ring.Ring
	for i := range 4 {
		r := holdGet(t, p, i, 8)
		holdWrite(t, r, bytesFrom(10*i, 3+i))
		stay = append(stay, r)
	}
	for range 3 {
		holdPut(t, p, 2, 1, 3)
		for _, i := range []int{1, 3} {
			holdWrite(t, holdGet(t, p, i, 8), []byte("########"))
		}
		for _, i := range []int{0, 2} {
			holdRing(t, stay[i], 8, bytesFrom(10*i, 3+i))
		}
	}
	holdFull(t, p)
}

// W6, W7: each ring that Get answers is new memory: an elder one stays what it was, and is none of the next one's.
func TestRingIsNewMemory(t *testing.T) {
	p := newPool(t, 2, 8)
	old := holdGet(t, p, 0, 8)
	holdWrite(t, old, []byte("abc"))
	holdPut(t, p, 1, 0)
	holdRing(t, old, 8, []byte("abc"))
	r := holdGet(t, p, 0, 8)
	holdWrite(t, r, []byte("defgh"))
	holdRing(t, old, 8, []byte("abc"))
	holdWrite(t, old, []byte("#####"))
	old.Skip(8)
	*old = ring.Ring{}
	holdRing(t, r, 8, []byte("defgh"))
	holdGet(t, p, 1, 8)
	holdPut(t, p, 1, 0)
	*r = ring.Ring{}
	holdGet(t, p, 0, 8)
}

// P4.2, W8: of a nil Pool Get answers ErrArg, all else nothing.
func TestNilPool(t *testing.T) {
	var p *pool.Pool
	for range 2 {
		if n, r, err := p.Get(); n != 0 || r != nil || err != api.ErrArg {
			t.Errorf("Get = %d, %v, %v", n, r, err)
		}
		holdPut(t, p, 0)
		holdPut(t, p, 0, append(strangers(1), 0, 0, 1)...)
		holdLent(t, p, 0, 0)
	}
}

// W1: a Pool that New did not make panics as little, and has no ring.
func TestUnmadePool(t *testing.T) {
	p := new(pool.Pool)
	for range 2 {
		holdFull(t, p)
		holdPut(t, p, 0)
		holdPut(t, p, 0, append(strangers(1), 0, 0, 1)...)
		holdLent(t, p, 0, 0)
	}
}

// W8: a Pool that was copied as a value goes on, if one of the two is used no more.
func TestCopiedPool(t *testing.T) {
	old := lending(t, 4, 3)
	old.Put(1)
	p := *old
	holdLent(t, &p, 2, 3)
	holdGet(t, &p, 1, 8)
	holdGet(t, &p, 3, 8)
	holdFull(t, &p)
	holdPut(t, &p, 2, 0, 2)
	holdGet(t, &p, 0, 8)
	holdLent(t, &p, 3, 4)
}

// dice are numbers from a fixed rule, the same in each run.
type dice uint64

func (d *dice) roll(n int) int {
	*d = *d*6364136223846793005 + 1442695040888963407
	return int(uint64(*d)>>33) % n
}

// beside holds a pool against the words of the document, step by step.
type beside struct {
	t           *testing.T
	p           *pool.Pool
	rings, size int
	most        int
	lent        map[int]*ring.Ring
	texts       map[int][]byte // what the rings hold
	d           dice
}

func (b *beside) leastFree() int {
	n := 0
	for b.lent[n] != nil {
		n++
	}
	return n
}

func (b *beside) get() {
	if len(b.lent) == b.rings {
		holdFull(b.t, b.p)
		return
	}
	n := b.leastFree()
	b.lent[n] = holdGet(b.t, b.p, n, b.size)
	b.most = max(b.most, len(b.lent))
}

func (b *beside) write() {
	n := b.d.roll(b.rings + 1)
	if r := b.lent[n]; r != nil {
		text := bytesFrom(b.d.roll(256), b.d.roll(r.Room()+1))
		holdWrite(b.t, r, text)
		gone := r.Skip(b.d.roll(4))
		b.texts[n] = append(b.texts[n], text...)[gone:]
	}
}

func (b *beside) put() {
	var l []int
	for range b.d.roll(4) {
		l = append(l, b.d.roll(b.rings+3)-1)
	}
	want := 0
	for _, n := range l {
		if b.lent[n] != nil {
			delete(b.lent, n)
			delete(b.texts, n)
			want++
		}
	}
	holdPut(b.t, b.p, want, l...)
}

func (b *beside) step() {
	switch b.d.roll(6) {
	case 0, 1:
		b.get()
	case 2, 3, 4:
		b.write()
	default:
		b.put()
	}
	holdLent(b.t, b.p, len(b.lent), b.most)
	for n, r := range b.lent {
		holdRing(b.t, r, b.size, b.texts[n])
	}
}

// P4.1, P4.2: many calls in many orders, held against the words of the document.
func TestBesideModel(t *testing.T) {
	for seed, rings := range []int{0, 1, 2, 3, 7, 20, 70} {
		for _, size := range []int{1, 2, 7, 30} {
			b := &beside{t: t, p: newPool(t, rings, size), rings: rings, size: size, lent: map[int]*ring.Ring{}, texts: map[int][]byte{}, d: dice(seed + size)}
			for range 600 {
				b.step()
			}
		}
	}
}

// W2, P0.7: what is answered depends on what was done with that pool alone, not on others, nor on who works meanwhile.
func TestTwins(t *testing.T) {
	work := func(p *pool.Pool) []int {
		var told []int
		d := dice(3)
		for range 3000 {
			n, r, err := p.Get()
			told = append(told, n, int(err), r.Write(bytesFrom(n, d.roll(20))), r.Room())
			told = append(told, p.Put(d.roll(40), d.roll(40)))
			now, most := p.Lent()
			told = append(told, now, most)
		}
		return told
	}
	want := work(newPool(t, 40, 12))
	got := make([][]int, 4)
	var wait sync.WaitGroup
	for i := range got {
		p := newPool(t, 40, 12)
		wait.Go(func() { got[i] = work(p) })
	}
	wait.Wait()
	for i := range got {
		if !slices.Equal(got[i], want) {
			t.Errorf("twin %d is answered otherwise", i)
		}
	}
}
