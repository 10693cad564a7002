package ring_test

import (
	"bytes"
	"math"
	"slices"
	"sync"
	"testing"

	"usher/api"
	"usher/ring"
)

// sizes are the least and the greatest one, and some between.
var sizes = []int{1, 2, 3, 4, 7, 8, 64, api.RingSize, 1000, api.MaxRing - 1, api.MaxRing}

// below are numbers for which Peek and Skip have nothing.
var below = []int{0, -1, -2, -api.MaxRing, math.MinInt32, math.MinInt + 1, math.MinInt}

// above are numbers greater than any count, those among them that would be none if they lost bits.
var above = []int{api.MaxRing + 1, 1 << 17, math.MaxInt32, 1 << 31, 1 << 32, 1<<32 + 1, 1 << 48, math.MaxInt}

// bytesFrom are n bytes, each the one behind its neighbour, so that one which is lost or told twice shows.
func bytesFrom(first, n int) []byte {
	b := make([]byte, n)
	for i := range b {
		b[i] = byte(first + i)
	}
	return b
}

func newRing(t *testing.T, size int) *ring.Ring {
	t.Helper()
	r, err := ring.New(size)
	if r == nil || err != api.OK {
		t.Fatalf("New(%d) = %v, %v", size, r, err)
	}
	return r
}

// turned is a ring that holds a text, and through which so many bytes went ahead of it.
func turned(t *testing.T, size, gone int, text []byte) *ring.Ring {
	t.Helper()
	r := newRing(t, size)
	for gone > 0 {
		n := min(gone, size)
		holdWrite(t, r, n, bytes.Repeat([]byte{0xee}, n))
		holdSkip(t, r, n, n)
		gone -= n
	}
	holdWrite(t, r, len(text), text)
	return r
}

func holdWrite(t *testing.T, r *ring.Ring, want int, rows ...[]byte) {
	t.Helper()
	if n := r.Write(rows...); n != want {
		t.Errorf("Write(%.40q) = %d, not %d", rows, n, want)
	}
}

func holdSkip(t *testing.T, r *ring.Ring, n, want int) {
	t.Helper()
	if got := r.Skip(n); got != want {
		t.Errorf("Skip(%d) = %d, not %d", n, got, want)
	}
}

func holdPeek(t *testing.T, r *ring.Ring, n int, want []byte) {
	t.Helper()
	if got := r.Peek(n); !bytes.Equal(got, want) {
		t.Errorf("Peek(%d) = %.40q, not %.40q", n, got, want)
	}
}

func holdFind(t *testing.T, r *ring.Ring, c byte, want int) {
	t.Helper()
	if i := r.Find(c); i != want {
		t.Errorf("Find(%#x) = %d, not %d", c, i, want)
	}
}

// counts are some of 0 to n, and all of them where there are few.
func counts(n int) []int {
	var l []int
	for i := 0; i <= n; i += 1 + n/40 {
		l = append(l, i)
	}
	return append(l, n)
}

// holdRing asks all that can be asked of a ring of that size which holds a text; it asks only.
func holdRing(t *testing.T, r *ring.Ring, size int, text []byte) {
	t.Helper()
	if n, room := r.Len(), r.Room(); n != len(text) || room != size-len(text) {
		t.Errorf("Len, Room = %d, %d of %d, with %d bytes in it", n, room, size, len(text))
	}
	for _, n := range below {
		holdPeek(t, r, n, nil)
	}
	for _, n := range counts(len(text)) {
		holdPeek(t, r, n, text[:n])
	}
	for _, n := range append([]int{len(text) + 1, size, size + 1, 2 * size}, above...) {
		holdPeek(t, r, n, text[:min(n, len(text))])
	}
	for c := range 256 {
		holdFind(t, r, byte(c), bytes.IndexByte(text, byte(c)))
	}
}

// P3.1: a size is 1 to MaxRing.
func TestNew(t *testing.T) {
	for _, size := range slices.Concat(above, below) {
		if r, err := ring.New(size); r != nil || err != api.ErrArg {
			t.Errorf("New(%d) = %v, %v, not nil, ErrArg", size, r, err)
		}
	}
	for _, size := range sizes {
		holdRing(t, newRing(t, size), size, nil)
	}
}

// The chapter's example, and what it leaves.
func TestExample(t *testing.T) {
	r := newRing(t, 4)
	holdWrite(t, r, 4, []byte("abc"), []byte("def"))
	holdSkip(t, r, 2, 2)
	holdPeek(t, r, 9, []byte("cd"))
	holdRing(t, r, 4, []byte("cd"))
	holdWrite(t, r, 2, []byte("xyz"))
	holdRing(t, r, 4, []byte("cdxy"))
}

// texts are rows of text.
func texts(l ...string) [][]byte {
	rows := [][]byte{}
	for _, s := range l {
		rows = append(rows, []byte(s))
	}
	return rows
}

// P3.1: of the rows, one behind the other, as many bytes as there is Room for. Ways: Write is variadic.
func TestWrite(t *testing.T) {
	for _, c := range []struct {
		rows [][]byte
		want string // behind "ab", in a ring of 8
	}{
		{nil, ""},
		{[][]byte{}, ""},
		{[][]byte{nil}, ""},
		{texts(""), ""},
		{[][]byte{{}, nil, {}}, ""},
		{texts("c"), "c"},
		{texts("cde"), "cde"},
		{texts("ba", "c"), "bac"},
		{texts("c", "", "d", "", "e"), "cde"},
		{texts("", "c"), "c"},
		{texts("c", "c", "c"), "ccc"},
		{texts("cdefgh"), "cdefgh"},
		{texts("cde", "fgh"), "cdefgh"},
		{texts("cdefghi"), "cdefgh"},
		{texts("cdefg", "hi"), "cdefgh"},
		{texts("cdefg", "hij", "k"), "cdefgh"},
		{texts("cdefgh", "i", "", "j"), "cdefgh"},
		{texts("cdefghijkl", "m"), "cdefgh"},
		{texts("\x00", "\xff\r\n"), "\x00\xff\r\n"},
	} {
		for gone := range 9 {
			r := turned(t, 8, gone, []byte("ab"))
			holdWrite(t, r, len(c.want), c.rows...)
			holdRing(t, r, 8, []byte("ab"+c.want))
		}
	}
	r := newRing(t, 8)
	if r.Write() != 0 || r.Write([]byte("a")) != 1 || r.Write([]byte("b"), []byte("c")) != 2 {
		t.Error("Write of rows one by one")
	}
	holdRing(t, r, 8, []byte("abc"))
}

// P3.1: a full ring takes nothing, and room comes back by Skip, no more of it than was skipped.
func TestWriteIntoFull(t *testing.T) {
	for _, size := range sizes {
		r := newRing(t, size)
		text := bytesFrom(1, size)
		holdWrite(t, r, size, bytesFrom(1, size+3))
		for _, rows := range [][][]byte{nil, texts(""), texts("x"), texts("", "x", "yz"), {bytesFrom(9, 2*size)}} {
			holdWrite(t, r, 0, rows...)
		}
		holdRing(t, r, size, text)
		holdSkip(t, r, 1, 1)
		holdRing(t, r, size, text[1:])
		holdWrite(t, r, 1, texts("", "xy", "z")...)
		holdRing(t, r, size, append(text[1:], 'x'))
		holdWrite(t, r, 0, texts("x")...)
		holdSkip(t, r, math.MaxInt, size)
		holdRing(t, r, size, nil)
		holdWrite(t, r, size, bytesFrom(70, size), []byte("x"))
		holdRing(t, r, size, bytesFrom(70, size))
	}
}

// P3.1: many rows at once, most of them behind the room.
func TestWriteOfManyRows(t *testing.T) {
	for _, size := range []int{1, 7, 1000} {
		r := turned(t, size, size/2, nil)
		text := bytesFrom(5, 5000)
		var rows [][]byte
		for i := range text {
			rows = append(rows, text[i:i+1], nil)
		}
		holdWrite(t, r, size, rows...)
		holdRing(t, r, size, text[:size])
	}
}

// P3.1: Peek is the first n or all, Skip drops just those, for every n, wherever in the memory the bytes lie.
func TestPeekAndSkip(t *testing.T) {
	for size := 1; size <= 9; size++ {
		for gone := range size {
			for n := range size + 1 {
				text := bytesFrom(3, n)
				for k := -2; k <= size+2; k++ {
					r := turned(t, size, gone, text)
					holdRing(t, r, size, text)
					drop := min(max(k, 0), n)
					holdPeek(t, r, k, text[:drop])
					holdSkip(t, r, k, drop)
					holdRing(t, r, size, text[drop:])
				}
			}
		}
	}
}

// P3.1: the greatest rings, part by part, over the place where the memory begins anew.
func TestGreatestRings(t *testing.T) {
	for _, size := range []int{api.MaxRing - 1, api.MaxRing} {
		for _, gone := range []int{1, size / 2, size - 1} {
			text := bytesFrom(0, size+999)
			r := turned(t, size, gone, text[:size-999])
			holdWrite(t, r, 999, text[size-999:size])
			holdSkip(t, r, size-2000, size-2000)
			holdRing(t, r, size, text[size-2000:size])
			holdSkip(t, r, 999, 999)
			holdWrite(t, r, 999, text[size:])
			holdRing(t, r, size, text[size-1001:])
		}
	}
}

// P3.1: numbers that are far off: none below 0, all where there are fewer.
func TestSkipOfFarNumbers(t *testing.T) {
	for _, size := range sizes {
		for _, text := range [][]byte{nil, bytesFrom(9, 1), bytesFrom(9, size/2), bytesFrom(9, size)} {
			r := turned(t, size, size-1, text)
			for _, n := range below {
				holdSkip(t, r, n, 0)
			}
			holdRing(t, r, size, text)
			for _, n := range append([]int{len(text), size + 1}, above...) {
				holdSkip(t, r, n, len(text))
				holdRing(t, r, size, nil)
				holdWrite(t, r, len(text), text)
			}
			holdSkip(t, r, size, len(text))
			for _, n := range slices.Concat([]int{1, size}, above, below) {
				holdSkip(t, r, n, 0)
			}
			holdRing(t, r, size, nil)
		}
	}
}

// P3.1: where a byte stands first: at once, later, twice, or not any more; wherever in the memory that is.
func TestFind(t *testing.T) {
	for gone := range 9 {
		r := turned(t, 8, gone, []byte("abcabd"))
		holdFind(t, r, 'a', 0)
		holdFind(t, r, 'c', 2)
		holdFind(t, r, 'd', 5)
		holdFind(t, r, 'x', -1)
		holdFind(t, r, 0, -1)    // of room that was never used
		holdFind(t, r, 0xee, -1) // of bytes that were skipped
		holdSkip(t, r, 1, 1)
		holdFind(t, r, 'a', 2)
		holdFind(t, r, 'b', 0)
		holdSkip(t, r, 2, 2)
		holdFind(t, r, 'c', -1)
		holdFind(t, r, 'a', 0)
		holdWrite(t, r, 5, []byte("ceaxyz"))
		holdFind(t, r, 'a', 0)
		holdFind(t, r, 'c', 3)
		holdFind(t, r, 'y', 7)
		holdFind(t, r, 'z', -1)
		holdSkip(t, r, 8, 8)
		for c := range 256 {
			holdFind(t, r, byte(c), -1)
		}
	}
}

// P3.1: a byte that stands once is found at its place, behind the one where the memory begins anew too.
func TestFindEachPlace(t *testing.T) {
	for _, size := range []int{1, 2, 8, 64, 65} {
		for gone := range size {
			for i := range size {
				text := bytes.Repeat([]byte("-"), size)
				text[i] = 0xff
				r := turned(t, size, gone, text)
				holdFind(t, r, 0xff, i)
				for skipped := 1; skipped <= size; skipped++ {
					holdSkip(t, r, 1, 1)
					holdFind(t, r, 0xff, max(i-skipped, -1))
				}
			}
		}
	}
}

// P3.2: bytes go out in the order in which they came, each once, through rings of all sizes and in pieces of all sizes.
func TestOrder(t *testing.T) {
	const whole = 3000
	text := make([]byte, whole)
	d := dice(1)
	for i := range text {
		text[i] = byte(d.roll(256))
	}
	for _, size := range []int{1, 2, 3, 8, 63, 64, 257, whole, api.MaxRing} {
		for _, piece := range []int{1, 2, 3, 7, 64, 100, whole} {
			r := newRing(t, size)
			var out []byte
			for in := 0; len(out) < whole; {
				in += r.Write(text[in:min(in+piece, whole)])
				got := r.Peek(1 + piece/2)
				out = append(out, got...)
				holdSkip(t, r, len(got), len(got))
				if n := r.Len(); n != in-len(out) || r.Room() != size-n {
					t.Fatalf("Len = %d, Room = %d of %d, with %d bytes in and %d out", n, r.Room(), size, in, len(out))
				}
			}
			if !bytes.Equal(out, text) {
				t.Errorf("ring of %d, pieces of %d: other bytes came out", size, piece)
			}
		}
	}
}

// P3.2, W6: Write leaves its rows as they are, spare room too, and keeps none of them.
func TestWriteLeavesItsRows(t *testing.T) {
	for gone := range 9 {
		room := []byte("abcdefgh")
		rows := [][]byte{room[:3], room[3:5], room[5:6]}
		before := slices.Clone(rows)
		r := turned(t, 8, gone, nil)
		holdWrite(t, r, 5, rows[:2]...)
		holdWrite(t, r, 3, room[4:8:8])
		want := []byte("abcdeefg")
		r.Peek(8)[0] = 'z'
		holdSkip(t, r, 1, 1)
		holdWrite(t, r, 1, []byte("!"))
		if string(room) != "abcdefgh" {
			t.Errorf("Write changed what it was handed: %q", room)
		}
		for i := range rows {
			if len(rows[i]) != len(before[i]) || cap(rows[i]) != cap(before[i]) || &rows[i][0] != &before[i][0] {
				t.Errorf("Write changed row %d of its list", i)
			}
		}
		clear(room)
		clear(rows)
		holdRing(t, r, 8, append(want[1:], '!'))
	}
}

// P3.2: one row that stands twice in a list, or lies over another, is told as often as it stands.
func TestWriteOfSharedRows(t *testing.T) {
	b := []byte("abcd")
	r := turned(t, 16, 10, nil)
	holdWrite(t, r, 13, b, b, b[1:], b[:2])
	holdRing(t, r, 16, []byte("abcdabcdbcdab"))
	holdWrite(t, r, 3, r.Peek(16))
	holdRing(t, r, 16, []byte("abcdabcdbcdababc"))
}

// spoil writes over an answer and all of its spare room.
func spoil(b []byte) {
	b = b[:cap(b)]
	for i := range b {
		b[i] = '#'
	}
}

// P3.2, W6, W7: each Peek is new memory, spare room too: nothing that is done with it, or behind it, is to be seen elsewhere.
func TestPeekIsNewMemory(t *testing.T) {
	for gone := range 9 {
		for n := range 9 {
			text := []byte("abcdefgh")[:n]
			r := turned(t, 8, gone, text)
			for k := range n + 2 {
				first, second := r.Peek(k), r.Peek(k)
				kept := slices.Clone(second)
				spoil(first)
				_ = append(first, "####"...)
				if !bytes.Equal(second, kept) {
					t.Errorf("one answer shares memory with another: %q", second)
				}
				holdRing(t, r, 8, text)
			}
			all := r.Peek(n)
			holdSkip(t, r, 8, n)
			holdWrite(t, r, 8, []byte("########"))
			if !bytes.Equal(all, text) {
				t.Errorf("an answer changed behind later calls: %q, not %q", all, text)
			}
		}
	}
}

// W2, P0.7: asking changes nothing, and several may ask at once.
func TestAskingChangesNothing(t *testing.T) {
	r := turned(t, 64, 40, bytesFrom(30, 50))
	var wait sync.WaitGroup
	for range 4 {
		wait.Go(func() {
			for range 20 {
				holdRing(t, r, 64, bytesFrom(30, 50))
			}
		})
	}
	wait.Wait()
	holdSkip(t, r, 10, 10)
	holdWrite(t, r, 24, bytesFrom(80, 30))
	holdRing(t, r, 64, bytesFrom(40, 64))
}

// P3.2, W8: of a nil Ring Find answers -1, all else nothing.
func TestNilRing(t *testing.T) {
	var r *ring.Ring
	for range 2 {
		holdWrite(t, r, 0)
		holdWrite(t, r, 0, nil, []byte{})
		holdWrite(t, r, 0, []byte("ab"), []byte("c"))
		for _, n := range slices.Concat([]int{1, 2}, above, below) {
			holdSkip(t, r, n, 0)
		}
		holdRing(t, r, 0, nil)
	}
}

// W1: a Ring that New did not make panics as little, and has nothing.
func TestUnmadeRing(t *testing.T) {
	r := new(ring.Ring)
	for range 2 {
		holdWrite(t, r, 0, nil, []byte("ab"))
		for _, n := range slices.Concat([]int{1, 2}, above, below) {
			holdSkip(t, r, n, 0)
		}
		holdRing(t, r, 0, nil)
	}
}

// W8: a Ring that was copied as a value goes on, if one of the two is used no more.
func TestCopiedRing(t *testing.T) {
	old := turned(t, 8, 6, []byte("abcd"))
	r := *old
	holdRing(t, &r, 8, []byte("abcd"))
	holdSkip(t, &r, 1, 1)
	holdWrite(t, &r, 5, []byte("efghi"))
	holdRing(t, &r, 8, []byte("bcdefghi"))
}

// dice are numbers from a fixed rule, the same in each run.
type dice uint64

func (d *dice) roll(n int) int {
	*d = *d*6364136223846793005 + 1442695040888963407
	return int(uint64(*d)>>33) % n
}

// some are bytes, seldom more than fit, and of few kinds, so that one often stands twice.
func (d *dice) some(size int) []byte {
	b := make([]byte, d.roll(size/2+2))
	for i := range b {
		b[i] = byte(d.roll(11) * 23)
	}
	return b
}

// beside holds a ring against a plain text, step by step.
type beside struct {
	t    *testing.T
	r    *ring.Ring
	size int
	text []byte
	d    dice
}

func (b *beside) write() {
	var rows [][]byte
	for range b.d.roll(4) {
		rows = append(rows, b.d.some(b.size))
	}
	all := slices.Concat(rows...)
	n := min(len(all), b.size-len(b.text))
	holdWrite(b.t, b.r, n, rows...)
	b.text = append(b.text, all[:n]...)
}

func (b *beside) skip() {
	k := b.d.roll(b.size+3) - 1
	n := min(max(k, 0), len(b.text))
	holdSkip(b.t, b.r, k, n)
	b.text = slices.Clone(b.text[n:])
}

// P3.1, P3.2: many calls in many orders, held against the words of the document.
func TestBesideModel(t *testing.T) {
	for seed, size := range []int{1, 2, 3, 5, 16, 33, 300} {
		b := &beside{t: t, r: newRing(t, size), size: size, d: dice(seed)}
		for range 800 {
			if b.d.roll(5) < 3 {
				b.write()
			} else {
				b.skip()
			}
			holdRing(t, b.r, size, b.text)
		}
	}
}

// W2, P0.7: what is answered depends on what was done with that ring alone, not on others, nor on who works meanwhile.
func TestTwins(t *testing.T) {
	work := func(r *ring.Ring) []byte {
		var told []byte
		d := dice(3)
		for range 2000 {
			n := r.Write(d.some(40), d.some(40))
			told = append(told, byte(n), byte(r.Len()), byte(r.Room()), byte(r.Find(byte(d.roll(11)*23))))
			told = append(told, r.Peek(d.roll(40))...)
			told = append(told, byte(r.Skip(d.roll(30))))
		}
		return told
	}
	want := work(newRing(t, 40))
	got := make([][]byte, 4)
	var wait sync.WaitGroup
	for i := range got {
		r := newRing(t, 40)
		wait.Go(func() { got[i] = work(r) })
	}
	wait.Wait()
	for i := range got {
		if !bytes.Equal(got[i], want) {
			t.Errorf("twin %d is answered otherwise", i)
		}
	}
}
