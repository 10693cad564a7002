package outq_test

import (
	"bytes"
	"math"
	"runtime"
	"slices"
	"sync"
	"testing"

	"usher/outq"
)

// below are numbers for which Next and Done have nothing.
var below = []int{-1, -2, -3, -64, math.MinInt32, math.MinInt + 1, math.MinInt}

// above are numbers greater than any count here, those among them that would be none if they lost bits.
var above = []int{1 << 30, math.MaxInt32, 1 << 31, 1 << 32, 1<<32 + 1, 1 << 48, math.MaxInt - 1, math.MaxInt}

// texts are parts.
func texts(l ...string) [][]byte {
	var parts [][]byte
	for _, s := range l {
		parts = append(parts, []byte(s))
	}
	return parts
}

// from is the numbers first to last.
func from(first, last int) []int {
	var l []int
	for i := first; i <= last; i++ {
		l = append(l, i)
	}
	return l
}

func newQueue(t *testing.T) *outq.Queue {
	t.Helper()
	q := outq.New()
	if q == nil {
		t.Fatal("New is nil")
	}
	holdQueue(t, q, "")
	return q
}

// queue is one with these pieces, and what it holds.
func queue(t *testing.T, pieces ...string) (q *outq.Queue, text string) {
	t.Helper()
	q = newQueue(t)
	for i, s := range pieces {
		holdAdd(t, q, i+1, []byte(s))
		text += s
	}
	return q, text
}

func holdAdd(t *testing.T, q *outq.Queue, want int, parts ...[]byte) {
	t.Helper()
	if n := q.Add(parts...); n != want {
		t.Errorf("Add(%.40q) = %d, not %d", parts, n, want)
	}
}

func holdNext(t *testing.T, q *outq.Queue, n int, want string) {
	t.Helper()
	if got := q.Next(n); string(got) != want {
		t.Errorf("Next(%d) = %.40q, not %.40q", n, got, want)
	}
}

func holdDone(t *testing.T, q *outq.Queue, n int, want ...int) {
	t.Helper()
	if got := q.Done(n); !slices.Equal(got, want) {
		t.Errorf("Done(%d) = %v, not %v", n, got, want)
	}
}

func holdDrop(t *testing.T, q *outq.Queue, want int) {
	t.Helper()
	if n := q.Drop(); n != want {
		t.Errorf("Drop = %d, not %d", n, want)
	}
}

func holdCount(t *testing.T, q *outq.Queue, n int, left ...int) {
	t.Helper()
	if got := q.Len(); got != n {
		t.Errorf("Len = %d, not %d", got, n)
	}
	if got := q.Left(); !slices.Equal(got, left) {
		t.Errorf("Left = %v, not %v", got, left)
	}
}

// holdQueue asks all that can be asked of a queue with that text left and those pieces untold; it asks only.
func holdQueue(t *testing.T, q *outq.Queue, text string, left ...int) {
	t.Helper()
	holdCount(t, q, len(text), left...)
	for _, n := range below {
		holdNext(t, q, n, "")
	}
	for n := 0; n <= len(text); n += 1 + len(text)/20 {
		holdNext(t, q, n, text[:n])
	}
	for _, n := range append([]int{len(text), len(text) + 1}, above...) {
		holdNext(t, q, n, text)
	}
	holdCount(t, q, len(text), left...)
}

// The chapter's example, and what it leaves.
func TestExample(t *testing.T) {
	q := newQueue(t)
	holdAdd(t, q, 1, texts("ab", "c")...)
	holdAdd(t, q, 2)
	holdAdd(t, q, 3, texts("d")...)
	holdQueue(t, q, "abcd", 1, 2, 3)
	holdDone(t, q, 3, 1, 2)
	holdQueue(t, q, "d", 3)
	holdDone(t, q, 1, 3)
	holdQueue(t, q, "")
}

// P5.1: one piece, of all parts, whatever parts there are. Ways: Add is variadic.
func TestAdd(t *testing.T) {
	for _, c := range []struct {
		parts [][]byte
		want  string
	}{
		{nil, ""},
		{[][]byte{}, ""},
		{[][]byte{nil}, ""},
		{texts(""), ""},
		{[][]byte{nil, {}, nil}, ""},
		{texts("c"), "c"},
		{texts("cde"), "cde"},
		{texts("cd", "e"), "cde"},
		{texts("c", "d", "e", "f"), "cdef"},
		{texts("", "c"), "c"},
		{texts("c", ""), "c"},
		{texts("", "c", "", "", "d", ""), "cd"},
		{[][]byte{nil, []byte("c"), nil, []byte("d"), nil}, "cd"},
		{texts("c", "c", "c"), "ccc"},
		{texts("\x00", "\xff\r\n", "\x00"), "\x00\xff\r\n\x00"},
	} {
		q, _ := queue(t, "ab")
		holdAdd(t, q, 2, c.parts...)
		holdAdd(t, q, 3, texts("z")...)
		holdQueue(t, q, "ab"+c.want+"z", 1, 2, 3)
		if len(c.want) > 0 {
			holdDone(t, q, 1+len(c.want), 1)
			holdQueue(t, q, c.want[len(c.want)-1:]+"z", 2, 3)
			holdDone(t, q, 1, 2)
		} else {
			holdDone(t, q, 2, 1, 2)
		}
		holdQueue(t, q, "z", 3)
	}
	if q := newQueue(t); q.Add() != 1 || q.Add([]byte("a")) != 2 || q.Add([]byte("b"), []byte("c")) != 3 {
		t.Error("Add of parts one by one")
	}
}

// P5.1: a piece of many parts, and one of a long part.
func TestAddOfManyParts(t *testing.T) {
	long := bytes.Repeat([]byte("0123456789"), 7000)
	var parts [][]byte
	for i := range long {
		parts = append(parts, long[i:i+1], nil)
	}
	q := newQueue(t)
	holdAdd(t, q, 1, parts...)
	holdAdd(t, q, 2, long, long)
	all := string(long) + string(long) + string(long)
	holdQueue(t, q, all, 1, 2)
	holdDone(t, q, 69999)
	holdQueue(t, q, all[69999:], 1, 2)
	holdDone(t, q, 140000, 1)
	holdQueue(t, q, "9", 2)
	holdDone(t, q, 1, 2)
}

// P5.1: numbers are 1, 2, .. of each queue, whatever was written, told or dropped meanwhile.
func TestNumbers(t *testing.T) {
	for _, between := range []func(q *outq.Queue){
		func(q *outq.Queue) {},
		func(q *outq.Queue) { q.Done(0) },
		func(q *outq.Queue) { q.Done(1) },
		func(q *outq.Queue) { q.Done(math.MaxInt) },
		func(q *outq.Queue) { q.Drop() },
		func(q *outq.Queue) { q.Done(1); q.Drop(); q.Drop() },
	} {
		q := newQueue(t)
		for i := range 40 {
			holdAdd(t, q, i+1, texts("ab", "cd")[:i%3]...)
			between(q)
		}
		q.Drop()
		holdAdd(t, q, 41, texts("e")...)
		holdQueue(t, q, "e", 41)
		holdAdd(t, q, 42)
		holdDone(t, q, 1, 41, 42)
	}
}

// P5.1: for each n the first n bytes or all, wherever in its pieces the queue stands; Next takes nothing.
func TestNext(t *testing.T) {
	for done := range 10 {
		q, text := queue(t, "abc", "", "d", "ef", "", "ghi")
		q.Done(done)
		text = text[done:]
		left := q.Left()
		for n := -2; n <= len(text)+3; n++ {
			want := text[:min(max(n, 0), len(text))]
			holdNext(t, q, n, want)
			holdNext(t, q, n, want)
			holdQueue(t, q, text, left...)
		}
	}
}

// P5.1: what Done tells, of a number below 0, of 0, of a part of a piece, of just a piece, of several, of all, of more.
func TestDone(t *testing.T) {
	for _, c := range []struct {
		n, gone int
		want    []int
	}{
		{math.MinInt, 0, nil},
		{-1, 0, nil},
		{0, 0, nil},
		{1, 1, nil},
		{2, 2, nil},
		{3, 3, from(1, 1)},
		{4, 4, from(1, 2)},
		{5, 5, from(1, 2)},
		{6, 6, from(1, 4)},
		{7, 7, from(1, 4)},
		{8, 8, from(1, 5)},
		{9, 8, from(1, 5)},
		{1 << 32, 8, from(1, 5)},
		{1<<32 + 1, 8, from(1, 5)},
		{math.MaxInt, 8, from(1, 5)},
	} {
		q, text := queue(t, "abc", "d", "ef", "", "gh")
		holdDone(t, q, c.n, c.want...)
		holdQueue(t, q, text[c.gone:], from(len(c.want)+1, 5)...)
		holdDone(t, q, 0)
		holdDone(t, q, 9, from(len(c.want)+1, 5)...)
		holdQueue(t, q, "")
	}
}

// P5.1: numbers that are far off write none, or all; an empty queue has nothing to write.
func TestDoneOfFarNumbers(t *testing.T) {
	for _, n := range below {
		q, _ := queue(t, "a", "bc")
		holdDone(t, q, n)
		holdQueue(t, q, "abc", 1, 2)
		holdDone(t, q, 2, 1)
		holdDone(t, q, n)
		holdQueue(t, q, "c", 2)
		holdDone(t, q, 1, 2)
		holdDone(t, q, n)
		holdQueue(t, q, "")
		holdAdd(t, q, 3)
		holdDone(t, q, n, 3)
	}
	for _, n := range above {
		q, _ := queue(t, "a", "bc")
		holdDone(t, q, n, 1, 2)
		holdDone(t, q, n)
		holdAdd(t, q, 3, texts("d")...)
		holdQueue(t, q, "d", 3)
		holdDone(t, q, 0)
		holdDone(t, q, n, 3)
		holdQueue(t, q, "")
	}
}

// P5.1: a piece without a byte is told by the next Done once those ahead are written, by Done(0) and by one below 0 too.
func TestPiecesWithoutByte(t *testing.T) {
	for _, zero := range []int{0, -1, math.MinInt} {
		q, _ := queue(t, "")
		holdQueue(t, q, "", 1)
		holdDone(t, q, zero, 1)
		holdDone(t, q, zero)

		q, _ = queue(t, "", "", "")
		holdDone(t, q, zero, 1, 2, 3)

		q, _ = queue(t, "", "a", "", "", "bc", "")
		holdQueue(t, q, "abc", from(1, 6)...)
		holdDone(t, q, zero, 1)
		holdQueue(t, q, "abc", from(2, 6)...)
		holdDone(t, q, zero)
		holdDone(t, q, 1, 2, 3, 4)
		holdQueue(t, q, "bc", 5, 6)
		holdDone(t, q, zero)
		holdDone(t, q, 1)
		holdDone(t, q, zero)
		holdDone(t, q, 1, 5, 6)
		holdDone(t, q, zero)
		holdQueue(t, q, "")
	}
}

// P5.1: a piece without a byte that comes once all is written waits for the next Done, whatever number that has.
func TestPieceWithoutByteLater(t *testing.T) {
	for _, n := range slices.Concat([]int{0, 1}, below, above) {
		q, _ := queue(t, "ab")
		holdDone(t, q, 2, 1)
		holdAdd(t, q, 2)
		holdQueue(t, q, "", 2)
		holdAdd(t, q, 3, nil, []byte{})
		holdQueue(t, q, "", 2, 3)
		holdDone(t, q, n, 2, 3)
		holdQueue(t, q, "")
		holdDone(t, q, n)
	}
	q, _ := queue(t, "ab")
	holdDone(t, q, 1)
	holdAdd(t, q, 2)
	holdDone(t, q, 0)
	holdQueue(t, q, "b", 1, 2)
	holdAdd(t, q, 3, texts("c")...)
	holdDone(t, q, 1, 1, 2)
	holdQueue(t, q, "c", 3)
}

// pieces calls f with each list of so many pieces of 0 to 2 bytes.
func pieces(n int, l []string, f func([]string)) {
	if len(l) == n {
		f(l)
		return
	}
	at := 10 * len(l)
	for _, s := range []string{"", string([]byte{byte(at)}), string([]byte{byte(at), byte(at + 1)})} {
		pieces(n, append(l, s), f)
	}
}

// wholeBy is how many of the pieces are whole once so many bytes are written.
func wholeBy(l []string, written int) int {
	n, end := 0, 0
	for _, s := range l {
		end += len(s)
		if end > written {
			break
		}
		n++
	}
	return n
}

// P5.1, P5.3: all queues of up to four short pieces, written in two steps: each piece is told once, in order.
func TestShortQueues(t *testing.T) {
	for n := range 5 {
		pieces(n, nil, func(l []string) {
			for first := range 2*n + 2 {
				for second := range 2*n + 2 {
					q, text := queue(t, l...)
					a := min(first, len(text))
					b := min(a+second, len(text))
					holdDone(t, q, first, from(1, wholeBy(l, a))...)
					holdCount(t, q, len(text)-a, from(wholeBy(l, a)+1, n)...)
					holdNext(t, q, second, text[a:b])
					holdDone(t, q, second, from(wholeBy(l, a)+1, wholeBy(l, b))...)
					holdCount(t, q, len(text)-b, from(wholeBy(l, b)+1, n)...)
					holdDone(t, q, math.MaxInt, from(wholeBy(l, b)+1, n)...)
					holdCount(t, q, 0)
				}
			}
		})
	}
}

// P5.2: Drop of nothing, of whole pieces, of one that is written in part, of pieces without a byte: how many bytes, and
// none of it is written or told any more.
func TestDrop(t *testing.T) {
	for _, c := range []struct {
		pieces []string
		done   []int // the Dones ahead of it
		want   int
	}{
		{nil, nil, 0},
		{nil, []int{0}, 0},
		{[]string{"a"}, nil, 1},
		{[]string{"a"}, []int{1}, 0},
		{[]string{"abc"}, []int{0}, 3},
		{[]string{"abc"}, []int{1}, 2},
		{[]string{"abc"}, []int{1, 1}, 1},
		{[]string{"abc"}, []int{3}, 0},
		{[]string{""}, nil, 0},
		{[]string{"", ""}, nil, 0},
		{[]string{"", ""}, []int{0}, 0},
		{[]string{"", "ab", ""}, nil, 2},
		{[]string{"", "ab", ""}, []int{1}, 1},
		{[]string{"ab", "", "cd"}, nil, 4},
		{[]string{"ab", "", "cd"}, []int{1}, 3},
		{[]string{"ab", "", "cd"}, []int{2}, 2},
		{[]string{"ab", "", "cd"}, []int{1, 2}, 1},
		{[]string{"ab", "cd", ""}, []int{4}, 0},
	} {
		q, _ := queue(t, c.pieces...)
		for _, n := range c.done {
			q.Done(n)
		}
		holdDrop(t, q, c.want)
		holdQueue(t, q, "")
		holdDrop(t, q, 0)
		holdDone(t, q, 0)
		holdDone(t, q, math.MaxInt)
		holdQueue(t, q, "")
		next := len(c.pieces) + 1
		holdAdd(t, q, next, texts("x", "y")...)
		holdAdd(t, q, next+1)
		holdQueue(t, q, "xy", next, next+1)
		holdDone(t, q, 0)
		holdDone(t, q, 1)
		holdDone(t, q, 1, next, next+1)
		holdQueue(t, q, "")
	}
}

// P5.2: a Drop behind a Drop, with pieces between: each forgets what was laid since, and no more than that.
func TestDrops(t *testing.T) {
	q := newQueue(t)
	next := 1
	for i := range 20 {
		holdAdd(t, q, next, texts("abc")...)
		holdAdd(t, q, next+1)
		holdAdd(t, q, next+2, texts("de")...)
		if i%2 == 0 {
			holdDone(t, q, 4, next, next+1)
			holdDrop(t, q, 1)
		} else {
			holdDone(t, q, 2)
			holdDrop(t, q, 3)
		}
		holdQueue(t, q, "")
		next += 3
	}
	holdAdd(t, q, 61)
	holdDrop(t, q, 0)
	holdDone(t, q, 0)
	holdAdd(t, q, 62)
	holdDone(t, q, 0, 62)
}

// P5.3: bytes go out in the order in which they were laid, each once, and each piece is told once, in order, just when
// its last byte went, in parts of all sizes.
func TestOrder(t *testing.T) {
	for _, step := range []int{1, 2, 3, 7, 64, 1000, 5000} {
		d := dice(step)
		q := newQueue(t)
		var laid, out []byte
		var ends, told []int
		for len(ends) < 200 || len(out) < len(laid) {
			if len(ends) < 200 {
				s := d.some(30)
				laid = append(laid, s...)
				ends = append(ends, len(laid))
				holdAdd(t, q, len(ends), s)
			}
			got := q.Next(step)
			out = append(out, got...)
			told = append(told, q.Done(len(got))...)
			n := 0
			for n < len(ends) && ends[n] <= len(out) {
				n++
			}
			holdCount(t, q, len(laid)-len(out), from(n+1, len(ends))...)
			if !slices.Equal(told, from(1, n)) {
				t.Fatalf("behind %d bytes %v were told, not 1 to %d", len(out), told, n)
			}
		}
		if !bytes.Equal(out, laid) {
			t.Errorf("steps of %d: other bytes came out", step)
		}
	}
}

// W1: a long queue is written piece by piece in a short time.
func TestLongQueue(t *testing.T) {
	const n = 200000
	q := newQueue(t)
	for i := range n {
		if q.Add([]byte{byte(i)}, nil) != 2*i+1 || q.Add() != 2*i+2 {
			t.Fatal("wrong numbers")
		}
	}
	for i := range n {
		if got := q.Next(1); len(got) != 1 || got[0] != byte(i) {
			t.Fatalf("Next(1) = %v at %d", got, i)
		}
		holdDone(t, q, 1, 2*i+1, 2*i+2)
		if q.Len() != n-1-i {
			t.Fatalf("Len = %d at %d", q.Len(), i)
		}
	}
	holdQueue(t, q, "")
}

// heap is how many bytes are in use.
func heap() int {
	runtime.GC()
	var m runtime.MemStats
	runtime.ReadMemStats(&m)
	return int(m.HeapAlloc)
}

// What was written, told or dropped isn't kept for the sake of what is left.
func TestOldPiecesAreNotKept(t *testing.T) {
	const much = 64 << 20
	before := heap()
	var all []*outq.Queue
	for _, last := range []func(q *outq.Queue){
		func(q *outq.Queue) { q.Done(much - 1) },
		func(q *outq.Queue) { q.Done(much) },
		func(q *outq.Queue) { q.Drop() },
	} {
		q := newQueue(t)
		q.Add(make([]byte, much))
		last(q)
		all = append(all, q)
	}
	if n := heap() - before; n > much/4 {
		t.Errorf("%d bytes are kept by three queues with one byte in all", n)
	}
	runtime.KeepAlive(all)
}

// P5.3, W6: Add leaves its parts and their list as they are, spare room too, and keeps none of them.
func TestAddLeavesItsParts(t *testing.T) {
	room := []byte("abcdefgh")
	parts := [][]byte{room[:3], room[3:5], room[5:6]}
	before := slices.Clone(parts)
	q := newQueue(t)
	holdAdd(t, q, 1, parts[:2]...)
	holdAdd(t, q, 2, room[4:8:8])
	holdAdd(t, q, 3, room[:1])
	spoil(q.Next(4))
	holdDone(t, q, 6, 1)
	holdAdd(t, q, 4, texts("xyz")...)
	if string(room) != "abcdefgh" {
		t.Errorf("Add changed what it was handed: %q", room)
	}
	for i := range parts {
		if len(parts[i]) != len(before[i]) || cap(parts[i]) != cap(before[i]) || &parts[i][0] != &before[i][0] {
			t.Errorf("Add changed part %d of its list", i)
		}
	}
	clear(room)
	clear(parts)
	holdQueue(t, q, "fghaxyz", 2, 3, 4)
}

// P5.3, W6: the only part of the first piece is kept as little as others, with spare room or without.
func TestAddKeepsNoPart(t *testing.T) {
	for _, spare := range []int{0, 5} {
		part := make([]byte, 3, 3+spare)
		copy(part, "abc")
		q := newQueue(t)
		holdAdd(t, q, 1, part)
		clear(part)
		holdAdd(t, q, 2, texts("de")...)
		if b := part[:3+spare]; !bytes.Equal(b, make([]byte, 3+spare)) {
			t.Errorf("Add changed what it was handed: %q", b)
		}
		holdQueue(t, q, "abcde", 1, 2)
	}
}

// P5.3: a part that stands twice in a list, lies over another, or was answered by Next, is written as often as it stands.
func TestAddOfSharedParts(t *testing.T) {
	b := []byte("abcd")
	q := newQueue(t)
	holdAdd(t, q, 1, b, b, b[1:], b[:2])
	holdQueue(t, q, "abcdabcdbcdab", 1)
	holdAdd(t, q, 2, q.Next(3), q.Next(1))
	holdQueue(t, q, "abcdabcdbcdababca", 1, 2)
}

// spoil writes over an answer and all of its spare room.
func spoil(b []byte) {
	b = b[:cap(b)]
	for i := range b {
		b[i] = '#'
	}
}

func spoilNumbers(l []int) {
	l = l[:cap(l)]
	for i := range l {
		l[i] = -7
	}
}

// P5.3, W6, W7: each Next is new memory, spare room too: nothing that is done with it, or behind it, is to be seen elsewhere.
func TestNextIsNewMemory(t *testing.T) {
	for done := range 8 {
		for n := range 9 {
			q, text := queue(t, "abc", "", "de", "fgh")
			q.Done(done)
			text = text[done:]
			left := q.Left()
			first, second := q.Next(n), q.Next(n)
			kept := slices.Clone(second)
			spoil(first)
			_ = append(first, "####"...)
			if !bytes.Equal(second, kept) {
				t.Errorf("one answer shares memory with another: %q", second)
			}
			holdQueue(t, q, text, left...)
			q.Done(1)
			holdAdd(t, q, 5, texts("########")...)
			holdQueue(t, q, text[1:]+"########", q.Left()...)
			q.Drop()
			holdAdd(t, q, 6, texts("########")...)
			if !bytes.Equal(second, kept) {
				t.Errorf("an answer changed behind later calls: %q, not %q", second, kept)
			}
		}
	}
}

// P5.3, W6, W7: so are the numbers that Done and Left answer.
func TestNumbersAreNewMemory(t *testing.T) {
	for done := range 7 {
		q, text := queue(t, "ab", "", "c", "d", "ef")
		told := q.Done(done)
		first, second := q.Left(), q.Left()
		want, kept := slices.Clone(told), slices.Clone(second)
		spoilNumbers(first)
		_ = append(first, -7, -7)
		if !slices.Equal(second, kept) || !slices.Equal(told, want) {
			t.Errorf("one answer shares memory with another: %v, %v", second, told)
		}
		holdQueue(t, q, text[done:], kept...)
		spoilNumbers(told)
		_ = append(told, -7, -7)
		holdAdd(t, q, 6, texts("g")...)
		holdQueue(t, q, text[done:]+"g", append(slices.Clone(kept), 6)...)
		if !slices.Equal(second, kept) {
			t.Errorf("an answer changed behind later calls: %v, not %v", second, kept)
		}
		told = q.Done(math.MaxInt)
		want = slices.Clone(told)
		holdAdd(t, q, 7)
		holdAdd(t, q, 8)
		holdDone(t, q, 0, 7, 8)
		if !slices.Equal(told, want) || !slices.Equal(told, append(kept, 6)) {
			t.Errorf("Done of all = %v, then %v, not %v and 6", want, told, kept)
		}
	}
}

// P5.2: an empty queue has nothing, whether nothing was laid yet, all was told, or all was dropped.
func TestEmptyQueue(t *testing.T) {
	told, _ := queue(t, "ab", "")
	holdDone(t, told, 2, 1, 2)
	dropped, _ := queue(t, "ab", "")
	holdDrop(t, dropped, 2)
	for _, q := range []*outq.Queue{newQueue(t), told, dropped} {
		for _, n := range slices.Concat([]int{0, 1, 2}, above, below) {
			holdNext(t, q, n, "")
			holdDone(t, q, n)
			holdDrop(t, q, 0)
		}
		holdQueue(t, q, "")
	}
}

// W2, P0.7: asking changes nothing, however often.
func TestAskingChangesNothing(t *testing.T) {
	q, text := queue(t, "abc", "", "def", "")
	holdDone(t, q, 1)
	for range 20 {
		holdQueue(t, q, text[1:], 1, 2, 3, 4)
	}
	holdDone(t, q, 5, 1, 2, 3, 4)
}

// P5.3, W8: of a nil Queue all answers nothing.
func TestNilQueue(t *testing.T) {
	var q *outq.Queue
	for range 2 {
		holdAdd(t, q, 0)
		holdAdd(t, q, 0, nil, []byte{})
		holdAdd(t, q, 0, texts("ab", "c")...)
		for _, n := range slices.Concat([]int{0, 1, 2}, above, below) {
			holdDone(t, q, n)
		}
		holdQueue(t, q, "")
		holdDrop(t, q, 0)
	}
}

// W1: a Queue that New did not make panics as little; it is an empty one.
func TestUnmadeQueue(t *testing.T) {
	q := new(outq.Queue)
	holdQueue(t, q, "")
	holdDrop(t, q, 0)
	holdDone(t, q, 1)
	holdAdd(t, q, 1, texts("ab", "c")...)
	holdAdd(t, q, 2)
	holdQueue(t, q, "abc", 1, 2)
	holdDone(t, q, 3, 1, 2)
}

// W8: a Queue that was copied as a value goes on, if one of the two is used no more.
func TestCopiedQueue(t *testing.T) {
	old, _ := queue(t, "abc", "", "de")
	holdDone(t, old, 2)
	q := *old
	holdQueue(t, &q, "cde", 1, 2, 3)
	holdDone(t, &q, 1, 1, 2)
	holdAdd(t, &q, 4, texts("fg")...)
	holdQueue(t, &q, "defg", 3, 4)
	holdDrop(t, &q, 4)
	holdAdd(t, &q, 5, texts("h")...)
	holdDone(t, &q, 1, 5)
}

// P5.1: queues have nothing to do with each other.
func TestQueuesApart(t *testing.T) {
	a, _ := queue(t, "ab")
	b, _ := queue(t, "x", "yz", "")
	holdDone(t, a, 1)
	holdQueue(t, b, "xyz", 1, 2, 3)
	holdDone(t, b, 3, 1, 2, 3)
	holdQueue(t, a, "b", 1)
	holdAdd(t, a, 2, texts("c")...)
	holdDrop(t, b, 0)
	holdAdd(t, b, 4)
	holdQueue(t, a, "bc", 1, 2)
}

// dice are numbers from a fixed rule, the same in each run.
type dice uint64

func (d *dice) roll(n int) int {
	*d = *d*6364136223846793005 + 1442695040888963407
	return int(uint64(*d)>>33) % n
}

// some are fewer than n bytes, often none.
func (d *dice) some(n int) []byte {
	b := make([]byte, d.roll(2)*d.roll(n))
	for i := range b {
		b[i] = byte(d.roll(256))
	}
	return b
}

// piece is one that was laid and not told.
type piece struct {
	number, left int // left: how many of its bytes are
}

// beside holds a queue against the words of the document, step by step.
type beside struct {
	t      *testing.T
	q      *outq.Queue
	size   int
	text   []byte
	last   int
	untold []piece
	d      dice
}

func (b *beside) add() {
	var parts [][]byte
	for range b.d.roll(4) {
		parts = append(parts, b.d.some(b.size))
	}
	b.last++
	holdAdd(b.t, b.q, b.last, parts...)
	all := slices.Concat(parts...)
	b.text = append(b.text, all...)
	b.untold = append(b.untold, piece{b.last, len(all)})
}

func (b *beside) done() {
	k := b.d.roll(len(b.text)+3) - 1
	if b.d.roll(3) > 0 {
		k = b.d.roll(b.size)
	}
	n := min(max(k, 0), len(b.text))
	b.text = slices.Clone(b.text[n:])
	var told []int
	for len(b.untold) > 0 {
		p := &b.untold[0]
		part := min(p.left, n)
		p.left -= part
		n -= part
		if p.left > 0 {
			break
		}
		told = append(told, p.number)
		b.untold = b.untold[1:]
	}
	holdDone(b.t, b.q, k, told...)
}

func (b *beside) drop() {
	holdDrop(b.t, b.q, len(b.text))
	b.text, b.untold = nil, nil
}

func (b *beside) step() {
	switch k := b.d.roll(40); {
	case k < 18:
		b.add()
	case k < 39:
		b.done()
	default:
		b.drop()
	}
	var left []int
	for _, p := range b.untold {
		left = append(left, p.number)
	}
	holdQueue(b.t, b.q, string(b.text), left...)
}

// P5.1, P5.2, P5.3: many calls in many orders, held against the words of the document.
func TestBesideModel(t *testing.T) {
	for seed, size := range []int{1, 2, 3, 5, 16, 50, 300} {
		b := &beside{t: t, q: newQueue(t), size: size, d: dice(seed)}
		for range 1000 {
			b.step()
		}
	}
}

// W2, P0.7: what is answered depends on what was done with that queue alone, not on others, nor on who works meanwhile.
func TestTwins(t *testing.T) {
	work := func(q *outq.Queue) []int {
		var told []int
		d := dice(3)
		for i := range 2000 {
			told = append(told, q.Add(d.some(30), d.some(30)), q.Len())
			for _, c := range q.Next(d.roll(40)) {
				told = append(told, int(c))
			}
			told = append(told, q.Done(d.roll(40))...)
			told = append(told, q.Left()...)
			if i%100 == 99 {
				told = append(told, q.Drop())
			}
		}
		return told
	}
	want := work(newQueue(t))
	got := make([][]int, 4)
	var wait sync.WaitGroup
	for i := range got {
		q := newQueue(t)
		wait.Go(func() { got[i] = work(q) })
	}
	wait.Wait()
	for i := range got {
		if !slices.Equal(got[i], want) {
			t.Errorf("twin %d is answered otherwise", i)
		}
	}
}
