package parse_test

import (
	"bytes"
	"fmt"
	"reflect"
	"slices"
	"strconv"
	"strings"
	"sync"
	"testing"
	"unsafe"

	"usher/api"
	"usher/chunk"
	"usher/parse"
)

const (
	end   = "\r\n"
	last  = "0" + end // the size line that ends the data
	first = "GET / HTTP/1.1" + end
	host  = "Host: a" + end
	next  = "GET /next HTTP/1.0" + end + end
)

// The face: what the document lists stands so; Feed is variadic.
var (
	_ func() *parse.Parser                         = parse.New
	_ func(*parse.Parser, ...[]byte) int           = (*parse.Parser).Feed
	_ func(*parse.Parser) int                      = (*parse.Parser).Phase
	_ func(*parse.Parser) int                      = (*parse.Parser).Status
	_ func(*parse.Parser) (api.Request, api.Errno) = (*parse.Parser).Take
	_ func(*parse.Parser) bool                     = (*parse.Parser).Waits
	_ [parse.Idle]int                              = [0]int{}
	_ [parse.Head]int                              = [1]int{}
	_ [parse.Body]int                              = [2]int{}
	_ [parse.Whole]int                             = [3]int{}
	_ [parse.Bad]int                               = [4]int{}
)

// told is what a Parser tells of bytes, from its beginning on.
type told struct {
	n       int // bytes that are taken
	head    int // bytes of the head; 0: no Body is behind it, or it does not end
	phase   int // behind all that are taken
	status  int
	waits   bool // ahead of the body's first byte
	request api.Request
}

// phaseAt is the Phase behind so many bytes that were taken.
func (w told) phaseAt(k int) int {
	switch {
	case k == w.n:
		return w.phase
	case k == 0:
		return parse.Idle
	case w.head > 0 && k >= w.head:
		return parse.Body
	}
	return parse.Head
}

// over tells whether nothing more is taken.
func (w told) over() bool { return w.phase == parse.Whole || w.phase == parse.Bad }

// short is a text that can be shown.
func short(v any) string { return fmt.Sprintf("%.300q", fmt.Sprintf("%+v", v)) }

// same tells whether two requests are one, a nil list and an empty one, too.
func same(a, b api.Request) bool {
	return a.Method == b.Method && a.Target == b.Target && a.Minor == b.Minor && slices.Equal(a.Fields, b.Fields) && bytes.Equal(a.Body, b.Body) && a.Close == b.Close && a.Expect == b.Expect
}

// fields are names and values, by turns.
func fields(l ...string) []api.Field {
	var all []api.Field
	for i := 0; i < len(l); i += 2 {
		all = append(all, api.Field{Name: l[i], Value: l[i+1]})
	}
	return all
}

func origin(path, query string) api.Target {
	return api.Target{Form: api.FormOrigin, Path: path, Query: query}
}

// plain is a GET of / with minor 1 and these fields.
func plain(l ...string) api.Request {
	return api.Request{Method: "GET", Target: origin("/", ""), Minor: 1, Fields: fields(l...)}
}

// sized is one chunk of a text.
func sized(s string) string { return strconv.FormatInt(int64(len(s)), 16) + end + s + end }

// text is so many bytes, of which none is as its neighbours.
func text(n int) string {
	b := make([]byte, n)
	for i := range b {
		b[i] = byte(i * 7)
	}
	return string(b)
}

// rowsOf are texts as rows; of those without a byte every other one is nil.
func rowsOf(pieces ...string) [][]byte {
	rows := make([][]byte, len(pieces))
	for i, s := range pieces {
		if s != "" || i%2 == 0 {
			rows[i] = []byte(s)
		}
	}
	return rows
}

// others are bytes of each kind, to be given to a Parser that takes none.
func others() []string {
	return []string{"", "\n", "\r", end, "x", "0", last + end, first, host, next, "X: y" + end, "\x00", "\xff", strings.Repeat("x", 1000), end + end, "", sized("abc") + last + end}
}

// holdState holds what is told behind so many bytes that were taken.
func holdState(t *testing.T, p *parse.Parser, w told, k int, fed any) {
	phase, status := w.phaseAt(k), 0
	if phase == parse.Bad {
		status = w.status
	}
	waits := w.waits && phase == parse.Body && k == w.head
	if got := p.Phase(); got != phase {
		t.Fatalf("Phase behind %d of %s is %d, not %d", k, short(fed), got, phase)
	}
	if got := p.Status(); got != status {
		t.Fatalf("Status behind %d of %s is %d, not %d", k, short(fed), got, status)
	}
	if got := p.Waits(); got != waits {
		t.Fatalf("Waits behind %d of %s is %v, not %v", k, short(fed), got, waits)
	}
}

// holdAgain holds that there is nothing to be taken, and that nobody can tell that it was asked for.
func holdAgain(t *testing.T, p *parse.Parser, w told, k int, fed any) {
	for range 2 {
		if r, err := p.Take(); err != api.ErrAgain || !same(r, api.Request{}) {
			t.Fatalf("Take behind %d of %s is %s, %v", k, short(fed), short(r), err)
		}
		holdState(t, p, w, k, fed)
	}
}

// holdPieces holds what is told of bytes that come in pieces, each by a Feed of its own.
func holdPieces(t *testing.T, w told, pieces ...string) *parse.Parser {
	p, at := parse.New(), 0
	holdState(t, p, w, 0, pieces)
	for i, row := range rowsOf(pieces...) {
		take := min(len(row), w.n-at)
		at += take
		if n := p.Feed(row); n != take {
			t.Fatalf("piece %d of %s: %d were taken, not %d", i, short(pieces), n, take)
		}
		holdState(t, p, w, at, pieces)
	}
	return p
}

// holdRows holds what is told of bytes that come as the rows of one Feed.
func holdRows(t *testing.T, w told, rows ...string) *parse.Parser {
	p := parse.New()
	if n := p.Feed(rowsOf(rows...)...); n != w.n {
		t.Fatalf("of the rows %s %d were taken, not %d", short(rows), n, w.n)
	}
	holdState(t, p, w, w.n, rows)
	return p
}

// holdOver holds that a Parser that is Whole or Bad takes nothing and tells that again, and, behind it, what is to be taken.
func holdOver(t *testing.T, w told, p *parse.Parser, fed any) {
	t.Helper()
	for _, s := range others() {
		if n := p.Feed([]byte(s)); n != 0 {
			t.Fatalf("of %s behind %s %d were taken", short(s), short(fed), n)
		}
		holdState(t, p, w, w.n, fed)
	}
	if n := p.Feed(rowsOf(others()...)...); n != 0 {
		t.Fatalf("of rows behind %s %d were taken", short(fed), n)
	}
	holdEnd(t, w, p, fed)
}

// holdEnd holds what is to be taken in the end, and the next request behind it.
func holdEnd(t *testing.T, w told, p *parse.Parser, fed any) {
	if w.phase != parse.Whole {
		holdAgain(t, p, w, w.n, fed)
		return
	}
	r, err := p.Take()
	if err != api.OK || !same(r, w.request) {
		t.Fatalf("%s is %s, %v, not %s", short(fed), short(r), err, short(w.request))
	}
	holdState(t, p, told{}, 0, fed)
	holdAgain(t, p, told{}, 0, fed)
	holdNext(t, p, fed)
}

// holdNext holds that a Parser is at its beginning.
func holdNext(t *testing.T, p *parse.Parser, fed any) {
	if n := p.Feed([]byte(next + "x")); n != len(next) {
		t.Fatalf("of the next one behind %s %d were taken", short(fed), n)
	}
	want := api.Request{Method: "GET", Target: origin("/next", ""), Close: true}
	if r, err := p.Take(); err != api.OK || !same(r, want) {
		t.Fatalf("the next one behind %s is %s, %v", short(fed), short(r), err)
	}
}

// ones are the bytes one by one, with empty pieces between.
func ones(s string) []string {
	l := []string{""}
	for i := range len(s) {
		l = append(l, s[i:i+1], "")
	}
	return l
}

// hold holds what is told of bytes in one piece, one by one and cut at each place, by several Feeds and by one of several rows.
func hold(t *testing.T, s string, w told) {
	t.Helper()
	for _, p := range []*parse.Parser{holdPieces(t, w, s), holdRows(t, w, s), holdPieces(t, w, ones(s)...), holdRows(t, w, ones(s)...)} {
		if w.over() {
			holdOver(t, w, p, s)
		} else {
			holdEnd(t, w, p, s)
		}
	}
	for i := range len(s) + 1 {
		holdEnd(t, w, holdPieces(t, w, s[:i], s[i:]), s)
		holdEnd(t, w, holdPieces(t, w, "", "", s[:i], "", "", s[i:], ""), s)
		holdEnd(t, w, holdRows(t, w, s[:i], s[i:]), s)
		holdEnd(t, w, holdRows(t, w, "", "", s[:i], "", "", s[i:], ""), s)
	}
	holdAsked(t, s, w)
}

// holdAsked asks a Parser for all at each byte.
func holdAsked(t *testing.T, s string, w told) {
	t.Helper()
	p := parse.New()
	for k := range w.n {
		holdAgain(t, p, w, k, s)
		if n := p.Feed([]byte{s[k]}); n != 1 {
			t.Fatalf("byte %d of %s: %d were taken", k, short(s), n)
		}
		holdState(t, p, w, k+1, s)
	}
	holdEnd(t, w, p, s)
}

// holdBehind holds bytes that end there, with others behind and without.
func holdBehind(t *testing.T, s string, w told) {
	t.Helper()
	hold(t, s, w)
	for _, behind := range []string{"\n", end, "x", next, text(300)} {
		holdEnd(t, w, holdPieces(t, w, s+behind), s)
		holdEnd(t, w, holdPieces(t, w, s, behind), s)
		holdEnd(t, w, holdPieces(t, w, s[:len(s)-1], s[len(s)-1:]+behind), s)
		holdEnd(t, w, holdRows(t, w, s, behind), s)
		holdEnd(t, w, holdRows(t, w, s[:len(s)-1], s[len(s)-1:]+behind), s)
	}
}

// holdWhole holds a request that is whole behind a head and a body.
func holdWhole(t *testing.T, head, body string, want api.Request) {
	t.Helper()
	w := told{n: len(head) + len(body), phase: parse.Whole, waits: want.Expect, request: want}
	if body != "" {
		w.head = len(head)
	}
	holdBehind(t, head+body, w)
}

// holdStatus holds that the last byte of a head is refused, and none ahead of it.
func holdStatus(t *testing.T, status int, s string) {
	t.Helper()
	holdBehind(t, s, told{n: len(s), phase: parse.Bad, status: status})
	holdMore(t, s[:len(s)-1])
}

// holdMore holds that these bytes are taken, and that more must come to the head.
func holdMore(t *testing.T, s string) {
	t.Helper()
	w := told{n: len(s)}
	if s != "" {
		w.phase = parse.Head
	}
	hold(t, s, w)
}

// P15.1: the document's example.
func TestExample(t *testing.T) {
	p := parse.New()
	if n := p.Feed([]byte("GET / HTTP/1.0\r\n\r\nGET")); n != 18 || p.Phase() != parse.Whole {
		t.Errorf("%d were taken, Phase %d", n, p.Phase())
	}
	holdWhole(t, "GET / HTTP/1.0\r\n\r\n", "", api.Request{Method: "GET", Target: origin("/", ""), Close: true})
}

// P15.1, P15.2: a new Parser is Idle; two are not one.
func TestNew(t *testing.T) {
	p, other := parse.New(), parse.New()
	if p == nil || p == other {
		t.Fatalf("New is %p, and %p", p, other)
	}
	for range 2 {
		holdState(t, p, told{}, 0, "nothing")
		holdAgain(t, p, told{}, 0, "nothing")
	}
	hold(t, "", told{})
	holdNext(t, p, "nothing")
}

// states are bytes by which a Parser comes to each Phase, in each way, with what it tells behind them.
func states() []struct {
	s string
	w told
} {
	long := strings.Repeat("x", api.MaxLine+1)
	three := first + host + "Content-Length: 3" + end
	chunks := first + host + "Transfer-Encoding: chunked" + end
	wait := "Expect: 100-continue" + end
	type state = struct {
		s string
		w told
	}
	whole := func(body string, l ...string) told {
		r := plain(l...)
		r.Body = []byte(body)
		return told{phase: parse.Whole, request: r}
	}
	length, coding, expect := []string{"Host", "a", "Content-Length", "3"}, []string{"Host", "a", "Transfer-Encoding", "chunked"}, []string{"Expect", "100-continue"}
	list := []state{
		{"", told{phase: parse.Idle}},
		{"G", told{phase: parse.Head}}, {"\r", told{phase: parse.Head}}, {"\x00", told{phase: parse.Head}}, {" ", told{phase: parse.Head}}, {end, told{phase: parse.Head}}, {end + end + end + end, told{phase: parse.Head}}, {end + "\r", told{phase: parse.Head}},
		{"GET / HTTP/1.1", told{phase: parse.Head}}, {"GET / HTTP/1.1\r", told{phase: parse.Head}}, {first, told{phase: parse.Head}}, {first + "H", told{phase: parse.Head}}, {first + "\r", told{phase: parse.Head}}, {first + host, told{phase: parse.Head}}, {first + host + "\r", told{phase: parse.Head}}, {three, told{phase: parse.Head}}, {chunks + wait + "\r", told{phase: parse.Head}},
		{three + end, told{head: len(three) + 2, phase: parse.Body}}, {three + end + "a", told{head: len(three) + 2, phase: parse.Body}}, {three + end + "a\n", told{head: len(three) + 2, phase: parse.Body}},
		{chunks + end, told{head: len(chunks) + 2, phase: parse.Body}}, {chunks + end + "3", told{head: len(chunks) + 2, phase: parse.Body}}, {chunks + end + sized("abc"), told{head: len(chunks) + 2, phase: parse.Body}}, {chunks + end + sized("abc") + "\r", told{head: len(chunks) + 2, phase: parse.Body}}, {chunks + end + last + "X: y" + end, told{head: len(chunks) + 2, phase: parse.Body}}, {chunks + end + last + "\r", told{head: len(chunks) + 2, phase: parse.Body}},
		{three + wait + end, told{head: len(three+wait) + 2, phase: parse.Body, waits: true}}, {three + wait + end + "\r", told{head: len(three+wait) + 2, phase: parse.Body, waits: true}},
		{chunks + wait + end, told{head: len(chunks+wait) + 2, phase: parse.Body, waits: true}}, {chunks + wait + end + "0", told{head: len(chunks+wait) + 2, phase: parse.Body, waits: true}},
		{first + host + end, whole("", "Host", "a")}, {end + first + host + "Content-Length: 0" + end + end, whole("", "Host", "a", "Content-Length", "0")},
		{three + end + "a\r\n", whole("a\r\n", length...)}, {chunks + end + sized("abc") + last + end, whole("abc", coding...)}, {chunks + end + last + "X: y" + end + end, whole("", coding...)},
		{three + wait + end + "abc", whole("abc", append(slices.Clip(length), expect...)...)}, {chunks + wait + end + last + end, whole("", append(slices.Clip(coding), expect...)...)},
		{"\n", told{phase: parse.Bad, status: 400}}, {"GET / HTTP/1.1\n", told{phase: parse.Bad, status: 400}}, {"x" + end, told{phase: parse.Bad, status: 400}}, {"GET / HTTP/2.0" + end, told{phase: parse.Bad, status: 505}}, {long, told{phase: parse.Bad, status: 414}}, {first + long, told{phase: parse.Bad, status: 431}}, {first + end, told{phase: parse.Bad, status: 400}}, {first + host + "Content-Length: 2049" + end + end, told{phase: parse.Bad, status: 413}},
		{chunks + end + "x" + end, told{head: len(chunks) + 2, phase: parse.Bad, status: 400}}, {chunks + end + "801" + end, told{head: len(chunks) + 2, phase: parse.Bad, status: 413}}, {chunks + end + last + long, told{head: len(chunks) + 2, phase: parse.Bad, status: 431}}, {chunks + wait + end + "\n", told{head: len(chunks+wait) + 2, phase: parse.Bad, status: 400, waits: true}},
	}
	for i, x := range list {
		list[i].w.n = len(x.s)
		list[i].w.waits = strings.Contains(x.s, wait)
		if x.w.phase == parse.Whole {
			list[i].w.request.Expect = list[i].w.waits
			if body := strings.Index(x.s, end+end); body+4 < len(x.s) {
				list[i].w.head = body + 4
			}
		}
	}
	return list
}

// P15.1, P15.2: each Phase, and how it is come to; Status, Take and Waits at each; more bytes where it takes none.
func TestPhases(t *testing.T) {
	seen := [5]int{}
	for _, x := range states() {
		seen[x.w.phase]++
		hold(t, x.s, x.w)
	}
	if slices.Contains(seen[:], 0) {
		t.Errorf("the Phases were come to %v times", seen)
	}
}

// P15.1: without a byte nothing happens, at each Phase, and on it goes.
func TestNoByte(t *testing.T) {
	for _, x := range states() {
		p := parse.New()
		p.Feed([]byte(x.s))
		for _, rows := range [][][]byte{nil, {}, {nil}, {{}}, {nil, nil}, {{}, nil, {}}, make([][]byte, 100)} {
			if n := p.Feed(rows...); n != 0 {
				t.Errorf("of no byte behind %s %d were taken", short(x.s), n)
			}
			holdState(t, p, x.w, x.w.n, x.s)
		}
		if n := p.Feed(); n != 0 {
			t.Errorf("of no row behind %s %d were taken", short(x.s), n)
		}
		holdEnd(t, x.w, p, x.s)
	}
	// The head and the body go on as if nothing had been given.
	const s = "\r\nPOST / HTTP/1.1\r\nHost: a\r\nContent-Length: 3\r\nExpect: 100-continue\r\n\r\nabc"
	p := parse.New()
	for i := range len(s) {
		p.Feed()
		p.Feed(nil, []byte{}, nil)
		if n := p.Feed(nil, []byte{s[i]}, nil, []byte{}); n != 1 {
			t.Errorf("byte %d: %d were taken", i, n)
		}
	}
	if r, err := p.Take(); err != api.OK || r.Method != "POST" || string(r.Body) != "abc" {
		t.Errorf("it is %s, %v", short(r), err)
	}
}

// P15.1: an 0a that ends a line without an 0d ahead of it is 400: of an empty line, the start, a field's line, the empty one behind.
func TestNewlines(t *testing.T) {
	long := strings.Repeat("x", api.MaxLine-3)
	for _, s := range []string{
		"\n", "GET / HTTP/1.1\n", "GET / HTTP/1.0\n", "x\n", " \n", "\x00\n", "GET\n", "\r \n", "G\rE\n", "GET / HTTP/1.1\r \n", "GET / HTTP/1.1\rx\n", "\rGET / HTTP/1.1\n", long + "xxx\n",
		first + "\n", first + "Host: a\n", first + "Host:\n", first + "x\n", first + " \n", first + "Host: a\r \n", first + "\rHost: a\n", first + "Host: a\ra\n", first + host + "\n", first + host + "X: y\n", first + host + "X:" + long + "x\n",
		"GET / HTTP/1.0" + end + "\n", "GET / HTTP/1.0" + end + "X: y\n", first + host + "Content-Length: 3" + end + "\n",
	} {
		for n := range api.EmptyLines + 1 {
			holdStatus(t, 400, strings.Repeat(end, n)+s)
		}
	}
	holdStatus(t, 400, strings.Repeat(end, api.EmptyLines)+"\n")
}

// P15.1: an 0d within a line, or one more ahead of its end, is of the line, which is refused at its 0a.
func TestCarriageReturns(t *testing.T) {
	for _, s := range []string{
		"\r\r\n", "\r\r\r\n", " \r\r\n", "\rx\r\n", "\r \r\n",
		"GET / HTTP/1.1\r\r\n", "GET / HTTP/1.1\r\r\r\n", "\rGET / HTTP/1.1\r\n", "GET\r / HTTP/1.1\r\n", "GET \r/ HTTP/1.1\r\n", "GET /\r HTTP/1.1\r\n", "GET /\ra HTTP/1.1\r\n", "GET / \rHTTP/1.1\r\n", "GET / HTTP\r/1.1\r\n", "GET / HTTP/1.1\r \r\n", "GET\r/\rHTTP/1.1\r\n",
	} {
		holdStatus(t, 400, s)
		holdStatus(t, 400, end+s)
	}
	for _, s := range []string{"\r\r\n", "\r\r\r\n", "Host: a\r\r\n", "Host: \ra\r\n", "Host\r: a\r\n", "\rHost: a\r\n", "X: y\rz\r\n", "X:\r\r\n", "X: \r \r\n", "\r \r\n"} {
		holdStatus(t, 400, first+s)
		holdStatus(t, 400, first+host+s)
	}
	for _, s := range []string{"\r", "\r\r", "GET\r", "GET / HTTP/1.1\r", "GET / HTTP/1.1\r\r", first + "\r", first + host + "\r", first + host + "\r\r", first + "Host: a\rb\r"} {
		holdMore(t, s)
	}
}

// startOf is a start line of so many bytes, without its end.
func startOf(n int) string {
	const behind = " / HTTP/1.1"
	return strings.Repeat("M", n-len(behind)) + behind
}

// lineOf is a field's line of so many bytes, without its end.
func lineOf(n int) string { return "X: " + strings.Repeat("x", n-len("X: ")) }

// valueOf is the value of such a line.
func valueOf(n int) string { return strings.Repeat("x", n-len("X: ")) }

// P15.1: a line may have MaxLine bytes without its end; without a start it is 414 at the byte by which it has more, an 0d that comes last not being counted.
func TestLongStarts(t *testing.T) {
	t.Parallel()
	if api.MaxLine != 256 {
		t.Errorf("MaxLine is %d", api.MaxLine)
	}
	for _, ahead := range []string{"", end, end + end + end + end} {
		for _, n := range []int{254, 255, 256} {
			holdMore(t, ahead+startOf(n))
			holdMore(t, ahead+startOf(n)+"\r")
			holdMore(t, ahead+startOf(n)+end)
			holdStatus(t, 400, ahead+startOf(n)+"\n")
			r := plain("Host", "a")
			r.Method = strings.Repeat("M", n-len(" / HTTP/1.1"))
			holdWhole(t, ahead+startOf(n)+end+host+end, "", r)
		}
		holdStatus(t, 414, ahead+startOf(257))
		holdStatus(t, 414, ahead+startOf(256)+"\x00")
		holdStatus(t, 414, ahead+startOf(256)+"\r\r")
		holdStatus(t, 414, ahead+startOf(256)+"\rx")
		holdStatus(t, 414, ahead+startOf(255)+"\rx")
		holdStatus(t, 414, ahead+startOf(255)+"\r\r\r")
		holdStatus(t, 414, ahead+startOf(254)+"\r\rx")
		holdStatus(t, 400, ahead+startOf(255)+"\r\r\n")
		holdStatus(t, 400, ahead+startOf(254)+"\r\r\n")
		holdStatus(t, 400, ahead+startOf(254)+"\rx\r\n")
		holdMore(t, ahead+startOf(255)+"\r\r")
		holdMore(t, ahead+startOf(254)+"\rx\r")
		for _, c := range []string{"x", " ", "/", "\x00", "\xff", ":"} {
			holdStatus(t, 414, ahead+strings.Repeat(c, 257))
			holdStatus(t, 400, ahead+strings.Repeat(c, 256)+end)
		}
		holdMore(t, ahead+strings.Repeat("\r", 257))
		holdStatus(t, 414, ahead+strings.Repeat("\r", 258))
		holdStatus(t, 400, ahead+strings.Repeat("\r", 257)+"\n")
		holdStatus(t, 414, ahead+strings.Repeat("\r", 256)+"x")
		holdStatus(t, 414, ahead+"GET /"+strings.Repeat("a", 252))
		holdStatus(t, 414, ahead+"GET / HTTP/2.0"+strings.Repeat(" ", 243))
	}
}

// P15.1: likewise with a start, by 431.
func TestLongLines(t *testing.T) {
	t.Parallel()
	for _, begun := range []string{first, first + host, end + first + host} {
		for _, n := range []int{254, 255, 256} {
			holdMore(t, begun+lineOf(n))
			holdMore(t, begun+lineOf(n)+"\r")
			holdMore(t, begun+lineOf(n)+end)
			holdStatus(t, 400, begun+lineOf(n)+"\n")
			holdWhole(t, begun+lineOf(n)+end+"Y: z"+end+strings.Repeat(host, 1-strings.Count(begun, host))+end, "", longRequest(begun, valueOf(n)))
		}
		holdStatus(t, 431, begun+lineOf(257))
		holdStatus(t, 431, begun+lineOf(256)+"\x00")
		holdStatus(t, 431, begun+lineOf(256)+" ")
		holdStatus(t, 431, begun+lineOf(256)+"\r\r")
		holdStatus(t, 431, begun+lineOf(256)+"\rx")
		holdStatus(t, 431, begun+lineOf(255)+"\rx")
		holdStatus(t, 431, begun+lineOf(255)+"\r\r\r")
		holdStatus(t, 431, begun+lineOf(254)+"\r\rx")
		holdStatus(t, 400, begun+lineOf(255)+"\r\r\n")
		holdStatus(t, 400, begun+lineOf(254)+"\r\r\n")
		holdStatus(t, 400, begun+lineOf(254)+"\rx\r\n")
		holdMore(t, begun+lineOf(255)+"\r\r")
		for _, c := range []string{"x", " ", ":", "\x00", "\xff"} {
			holdStatus(t, 431, begun+strings.Repeat(c, 257))
			holdStatus(t, 400, begun+strings.Repeat(c, 256)+end)
		}
		holdMore(t, begun+strings.Repeat("\r", 257))
		holdStatus(t, 431, begun+strings.Repeat("\r", 258))
		holdStatus(t, 400, begun+strings.Repeat("\r", 257)+"\n")
	}
}

// longRequest is what the head of a long line says.
func longRequest(begun, value string) api.Request {
	if strings.Contains(begun, host) {
		return plain("Host", "a", "X", value, "Y", "z")
	}
	return plain("X", value, "Y", "z", "Host", "a")
}

// P15.1: as many empty lines as EmptyLines are passed over ahead of the start, and one more is 400 at its 0a.
func TestEmptyLines(t *testing.T) {
	if api.EmptyLines != 4 {
		t.Errorf("EmptyLines is %d", api.EmptyLines)
	}
	for n := range api.EmptyLines + 1 {
		empty := strings.Repeat(end, n)
		holdMore(t, empty)
		holdMore(t, empty+"\r")
		holdMore(t, empty+"G")
		holdWhole(t, empty+first+host+end, "", plain("Host", "a"))
		holdWhole(t, empty+first+host+"Content-Length: 4"+end+end, end+end, api.Request{Method: "GET", Target: origin("/", ""), Minor: 1, Fields: fields("Host", "a", "Content-Length", "4"), Body: []byte(end + end)})
		holdStatus(t, 400, empty+" "+end)
		holdStatus(t, 400, empty+"\t"+end)
	}
	holdStatus(t, 400, strings.Repeat(end, api.EmptyLines+1))
	// They are counted anew for each request.
	p := parse.New()
	for range 3 {
		s := strings.Repeat(end, api.EmptyLines) + first + host + end
		if n := p.Feed([]byte(s)); n != len(s) || p.Phase() != parse.Whole {
			t.Fatalf("%d were taken, Phase %d", n, p.Phase())
		}
		p.Take()
	}
}

// headOf is a head of just so many bytes, with all ends, and its fields.
func headOf(n int, begun string, l ...string) (string, []api.Field) {
	s := begun
	for n-len(s) > len(end)+api.MaxLine+len(end) {
		s, l = s+lineOf(200)+end, append(l, "X", valueOf(200))
	}
	if room := n - len(s) - len(end) - len(end); room >= 0 {
		s, l = s+lineOf(room)+end, append(l, "X", valueOf(room))
	}
	return s + end, fields(l...)
}

// P15.1: a head may have MaxHead bytes, with all ends of lines, and of more it is refused at the 0a of the line by which it has them.
func TestMaxHead(t *testing.T) {
	t.Parallel()
	if api.MaxHead != 1024 {
		t.Errorf("MaxHead is %d", api.MaxHead)
	}
	for _, begun := range []string{first + host, end + end + end + end + first + host} {
		for n := api.MaxHead - 3; n <= api.MaxHead; n++ {
			head, l := headOf(n, begun, "Host", "a")
			if len(head) != n {
				t.Fatalf("the head has %d bytes, not %d", len(head), n)
			}
			holdWhole(t, head, "", api.Request{Method: "GET", Target: origin("/", ""), Minor: 1, Fields: l})
		}
		for n := api.MaxHead + 1; n <= api.MaxHead+2; n++ {
			// It is the empty line by which the head has too many bytes.
			head, _ := headOf(n, begun)
			holdMore(t, head[:len(head)-len(end)])
			holdStatus(t, 431, head)
			holdStatus(t, 400, head[:len(head)-len(end)]+"\n")
		}
		for n := api.MaxHead + 3; n <= api.MaxHead+6; n++ {
			// It is the line ahead of it, and not more than MaxLine.
			head, _ := headOf(n, begun)
			holdMore(t, head[:len(head)-len(end)-1])
			holdStatus(t, 431, head[:len(head)-len(end)])
		}
	}
	// Within a line the head's bytes are not counted yet.
	head, _ := headOf(api.MaxHead, first+host)
	begun := head[:len(head)-len(end)]
	holdMore(t, begun+strings.Repeat("x", api.MaxLine)+"\r")
	holdStatus(t, 431, begun+strings.Repeat("x", api.MaxLine)+end)
	holdStatus(t, 431, begun+strings.Repeat("x", api.MaxLine+1))
	holdStatus(t, 400, begun+strings.Repeat("x", api.MaxLine)+"\n")
	// The body does not count.
	withBody, l := headOf(api.MaxHead, first+host+"Content-Length: 2000"+end, "Host", "a", "Content-Length", "2000")
	holdLong(t, withBody, text(2000), api.Request{Method: "GET", Target: origin("/", ""), Minor: 1, Fields: l, Body: []byte(text(2000))})
	// Each request's head is counted anew.
	p := parse.New()
	for range 3 {
		if n := p.Feed([]byte(head)); n != api.MaxHead || p.Phase() != parse.Whole {
			t.Fatalf("%d were taken, Phase %d", n, p.Phase())
		}
		p.Take()
	}
}

// holdLong holds a long request in pieces of some lengths, by several Feeds and by one, and cut at some places.
func holdLong(t *testing.T, head, body string, want api.Request) {
	t.Helper()
	w := told{n: len(head) + len(body), head: len(head), phase: parse.Whole, waits: want.Expect, request: want}
	holdInPieces(t, head+body, w)
	holdInPieces(t, head+body+next, w)
}

func holdInPieces(t *testing.T, s string, w told) {
	t.Helper()
	for _, n := range []int{len(s), 1, 2, 3, 64, 255, 1000} {
		var pieces []string
		for b := range slices.Chunk([]byte(s), n) {
			pieces = append(pieces, "", string(b))
		}
		holdOver(t, w, holdPieces(t, w, pieces...), s)
		holdOver(t, w, holdRows(t, w, pieces...), s)
	}
	for i := 0; i <= len(s); i += 1 + len(s)/200 {
		holdEnd(t, w, holdPieces(t, w, s[:i], "", s[i:]), s)
		holdEnd(t, w, holdRows(t, w, s[:i], "", s[i:]), s)
	}
	holdAsked(t, s, w)
}

// P15.1: a head may have MaxFields fields; 431 at the 0a of one more.
func TestManyFields(t *testing.T) {
	if api.MaxFields != 24 {
		t.Errorf("MaxFields is %d", api.MaxFields)
	}
	head, l := first+host, []string{"Host", "a"}
	for i := 1; i < api.MaxFields; i++ {
		n := strconv.Itoa(i)
		head, l = head+"X-"+n+": "+n+end, append(l, "X-"+n, n)
	}
	holdWhole(t, head+end, "", plain(l...))
	holdStatus(t, 431, head+"Y: z"+end)
	holdStatus(t, 431, head+"Host: a"+end)
	holdStatus(t, 400, head+"Y z"+end)
	holdStatus(t, 400, head+"Y: z\n")
	holdMore(t, head+"Y: z\r")
	// Trailers are no fields of the head.
	coded := strings.Replace(head, "X-1: 1", "Transfer-Encoding: chunked", 1)
	l[2], l[3] = "Transfer-Encoding", "chunked"
	holdWhole(t, coded+end, last+strings.Repeat("T: u"+end, 8)+end, plain(l...))
}

// P15.1: each status that chapter 13's Line answers, at the 0a of the line.
func TestStatuses(t *testing.T) {
	long := "/" + strings.Repeat("a", api.MaxTarget)
	for _, c := range []struct {
		status int
		s      string
	}{
		{400, "x" + end}, {400, "GET / HTTP/1.1 x" + end}, {400, "GET  / HTTP/1.1" + end}, {400, " GET / HTTP/1.1" + end}, {400, "GET / HTTP/1.1 " + end}, {400, "GET /" + end}, {400, "G@T / HTTP/1.1" + end}, {400, "GET / http/1.1" + end}, {400, "GET / HTTP/1.10" + end}, {400, "GET /.. HTTP/1.1" + end}, {400, "GET /% HTTP/1.1" + end}, {400, "GET * HTTP/1.1" + end}, {400, "\x00" + end}, {400, "\xff" + end}, {400, " " + end},
		{414, "GET " + long + " HTTP/1.1" + end}, {414, "CONNECT " + long + " HTTP/1.0" + end},
		{505, "GET / HTTP/2.0" + end}, {505, "GET / HTTP/0.9" + end}, {505, "PRI * HTTP/2.0" + end},
		{400, first + "x" + end}, {400, first + " X: y" + end}, {400, first + ": y" + end}, {400, first + "X : y" + end}, {400, first + "X: \x00" + end}, {400, first + host + "\xff: y" + end}, {400, first + " " + end}, {400, first + first},
		{400, first + end}, {400, first + host + host + end}, {400, first + "Host: a b" + end + end}, {400, first + "X: y" + end + end},
		{400, first + host + "Content-Length: x" + end + end}, {400, first + host + "Content-Length:" + end + end}, {400, first + host + "Content-Length: 1, 2" + end + end}, {400, first + host + "Content-Length: -1" + end + end}, {400, first + host + "Content-Length: +1" + end + end}, {400, first + host + "Content-Length: 1234567890123456" + end + end},
		{400, first + host + "Content-Length: 1" + end + "Transfer-Encoding: chunked" + end + end}, {400, first + host + "Transfer-Encoding:" + end + end}, {400, first + host + "Transfer-Encoding: chunked, gzip" + end + end}, {400, "GET / HTTP/1.0" + end + "Transfer-Encoding: chunked" + end + end}, {400, first + host + "Connection: a b" + end + end},
		{413, first + host + "Content-Length: 2049" + end + end}, {413, first + host + "Content-Length: 999999999999999" + end + end},
		{417, first + host + "Expect: x" + end + end}, {417, first + host + "Expect:" + end + end}, {417, first + host + "Expect: 100-continue" + end + "Expect: 100-continue" + end + end},
		{501, first + host + "Transfer-Encoding: gzip, chunked" + end + end}, {501, first + host + "Transfer-Encoding: x" + end + "Transfer-Encoding: CHUNKED" + end + end},
	} {
		holdStatus(t, c.status, c.s)
		holdStatus(t, c.status, end+c.s)
	}
}

// P15.1, W10: where several statuses apply at one byte, the first one in the document's order.
func TestFirstStatus(t *testing.T) {
	t.Parallel()
	target := "/" + strings.Repeat("a", api.MaxTarget)
	full := first + host + strings.Repeat("X:y"+end, api.MaxFields-1)
	head, _ := headOf(api.MaxHead+1, first+host)
	near := head[:len(head)-len(end)] // one byte is left, and an empty line has two
	noHost, _ := headOf(api.MaxHead+1, first)
	for _, c := range []struct {
		status int
		s      string
	}{
		// An 0a without an 0d, ahead of all that the line says.
		{400, "GET / HTTP/2.0\n"}, {400, "GET " + target + " HTTP/1.1\n"}, {400, full + "X: y\n"}, {400, near + "\n"}, {400, near + "X: y\n"}, {400, first + host + "Content-Length: 2049" + end + "\n"}, {400, first + host + "Expect: x" + end + "\n"}, {400, first + host + "Transfer-Encoding: gzip, chunked" + end + "\n"}, {400, strings.Repeat("x", api.MaxLine) + "\n"}, {400, first + strings.Repeat("x", api.MaxLine) + "\n"},
		// Too many bytes, ahead of what the line says besides.
		{431, near + "x" + end}, {431, near + " " + end}, {431, near + "X: y" + end}, {431, near + end}, {431, noHost}, {414, strings.Repeat(" ", api.MaxLine+1)}, {431, first + strings.Repeat(" ", api.MaxLine+1)}, {414, "GET / HTTP/2.0" + strings.Repeat("x", api.MaxLine-13)}, {431, near + strings.Repeat("x", api.MaxLine+1)},
		// The parts, then the version, then the target.
		{400, "G@T / HTTP/2.0" + end}, {400, "GET  / HTTP/2.0" + end}, {505, "GET /% HTTP/2.0" + end}, {505, "GET " + target + " HTTP/2.0" + end}, {400, "GET " + target + " HTTP/x.0" + end}, {400, "G@T " + target + " HTTP/1.1" + end}, {414, "GET " + target + "% HTTP/1.1" + end},
		// No field, then too many of them.
		{400, full + "x" + end}, {431, full + "X: y" + end},
		// Chapter 12's order: Host, the body, Connection, Expect.
		{400, first + "Content-Length: 2049" + end + end}, {400, first + "Transfer-Encoding: gzip, chunked" + end + end}, {400, first + "Expect: x" + end + end}, {413, first + host + "Content-Length: 2049" + end + "Connection: a b" + end + end}, {413, first + host + "Expect: x" + end + "Content-Length: 2049" + end + end}, {501, first + host + "Expect: x" + end + "Connection: a b" + end + "Transfer-Encoding: gzip, chunked" + end + end}, {400, first + host + "Expect: x" + end + "Connection: a b" + end + end}, {400, first + host + "Content-Length: 2049" + end + "Transfer-Encoding: gzip, chunked" + end + end},
	} {
		holdStatus(t, c.status, c.s)
	}
	coded := first + host + "Transfer-Encoding: chunked" + end + end
	for _, c := range []struct {
		status int
		s      string
	}{
		{400, "801\n"}, {400, "801;" + end}, {400, last + lines(250, 250) + "X: abcd\n"}, {400, last + lines(250, 250) + "xxxxxxx" + end}, {431, last + lines(250, 250) + "X: abcd" + end}, {400, last + strings.Repeat("T: u"+end, 8) + "x" + end}, {431, last + strings.Repeat("T: u"+end, 8) + "T: u" + end},
	} {
		holdBodyStatus(t, c.status, coded, c.s)
	}
}

// lines are fields' lines of so many bytes, with their ends.
func lines(sizes ...int) string {
	s := ""
	for _, n := range sizes {
		s += lineOf(n) + end
	}
	return s
}

// holdBodyStatus holds that the last byte of a body is refused, and none ahead of it.
func holdBodyStatus(t *testing.T, status int, head, body string) {
	t.Helper()
	waits := strings.Contains(head, "100-continue")
	s := head + body
	holdBehind(t, s, told{n: len(s), head: len(head), phase: parse.Bad, status: status, waits: waits})
	hold(t, s[:len(s)-1], told{n: len(s) - 1, head: len(head), phase: parse.Body, waits: waits})
}

// P15.1, P15.2: a body with a length: none, of one byte, of some, of MaxBody; one more is 413 ahead of it.
func TestLengths(t *testing.T) {
	if api.MaxBody != 2048 {
		t.Errorf("MaxBody is %d", api.MaxBody)
	}
	request := func(length, body string) (string, api.Request) {
		r := plain("Host", "a", "Content-Length", length)
		r.Body = []byte(body)
		return first + host + "Content-Length: " + length + end + end, r
	}
	for _, length := range []string{"0", "00", "000000000000000", "0, 0"} {
		head, want := request(length, "")
		holdWhole(t, head, "", want)
	}
	for n := 1; n < 40; n++ {
		for _, length := range []string{strconv.Itoa(n), "0" + strconv.Itoa(n)} {
			head, want := request(length, text(n))
			holdWhole(t, head, text(n), want)
		}
	}
	for _, n := range []int{255, 256, 257, 1023, 1024, 1025, 2000, api.MaxBody - 1, api.MaxBody} {
		head, want := request(strconv.Itoa(n), text(n))
		holdLong(t, head, text(n), want)
		hold(t, head, told{n: len(head), head: len(head), phase: parse.Body})
		w := told{n: len(head) + n - 1, head: len(head), phase: parse.Body}
		holdEnd(t, w, holdPieces(t, w, head+text(n-1)), head)
		holdEnd(t, w, holdPieces(t, w, head, text(n-1)), head)
	}
	for _, n := range []int{api.MaxBody + 1, api.MaxBody + 2, 4096, 1 << 30} {
		head, _ := request(strconv.Itoa(n), "")
		holdStatus(t, 413, head)
	}
	head, want := request("3, 3,03", "abc")
	holdWhole(t, head, "abc", want)
}

// P15.1: without a length and without chunks a request is whole behind its head, whatever its method is and whatever comes.
func TestNoBody(t *testing.T) {
	for _, method := range []string{"GET", "POST", "PUT", "HEAD", "x", "get"} {
		r := plain("Host", "a")
		r.Method = method
		holdWhole(t, method+" / HTTP/1.1"+end+host+end, "", r)
	}
	r := plain("Host", "a")
	r.Method, r.Target = "CONNECT", api.Target{Form: api.FormAuthority, Host: "a:80"}
	holdWhole(t, "CONNECT A:80 HTTP/1.1"+end+host+end, "", r)
	r.Method, r.Target = "OPTIONS", api.Target{Form: api.FormAsterisk}
	holdWhole(t, "OPTIONS * HTTP/1.1"+end+host+end, "", r)
	r.Method, r.Target = "GET", api.Target{Form: api.FormAbsolute, Host: "b", Path: "/c", Query: "d"}
	holdWhole(t, "GET http://B/./c?d HTTP/1.1"+end+host+end, "", r)
	r.Target = origin("/a b", "c?d")
	holdWhole(t, "GET /a%20b?c?d HTTP/1.1"+end+host+end, "", r)
}

// P15.1: a body is any bytes, those of ends, of heads and of whole requests, too.
func TestBodiesOfAnything(t *testing.T) {
	t.Parallel()
	bodies := []string{"\n", "\r", end, end + end, "\r\r\n\n", "a" + end, first, first + host + end, next, next + next, "GET / HTTP/2.0" + end, "\x00", strings.Repeat("\xff", 9), "X: y" + end, last + end, sized("abc") + last + end, "Content-Length: 99" + end + end, strings.Repeat("x", api.MaxLine+9), strings.Repeat(end, 9)}
	for i := range 256 {
		bodies = append(bodies, string([]byte{byte(i)}))
	}
	for _, body := range bodies {
		n := strconv.Itoa(len(body))
		r := plain("Host", "a", "Content-Length", n)
		r.Body = []byte(body)
		holdWhole(t, first+host+"Content-Length: "+n+end+end, body, r)
		if len(body) > 60 {
			continue
		}
		r = plain("Host", "a", "Transfer-Encoding", "chunked")
		r.Body = []byte(body)
		holdWhole(t, first+host+"Transfer-Encoding: chunked"+end+end, sized(body)+last+end, r)
		r.Body = []byte(body + body)
		holdWhole(t, first+host+"Transfer-Encoding: chunked"+end+end, sized(body)+sized(body)+last+end, r)
	}
}

// P15.1, P15.2: a body in chunks, with trailers and without: what came in them is the body, and trailers are no fields.
func TestChunks(t *testing.T) {
	for _, coding := range []string{"chunked", "CHUNKED", "Chunked ,"} {
		head := first + host + "Transfer-Encoding: " + coding + end + end
		for _, c := range []struct{ body, want string }{
			{last + end, ""}, {"000000" + end + end, ""}, {"0;a=\"b\"" + end + end, ""}, {"3;a=b" + end + "abc" + end + last + end, "abc"}, {sized("a") + sized("bc") + last + end, "abc"}, {"0A" + end + "0123456789" + end + last + end, "0123456789"},
			{last + "X: y" + end + end, ""}, {sized("abc") + last + "X: y" + end + "Host: b" + end + end, "abc"}, {sized("abc") + last + "Content-Length: 9" + end + "Connection: close" + end + "Expect: x" + end + end, "abc"}, {last + strings.Repeat("T:u"+end, 8) + end, ""},
		} {
			r := plain("Host", "a", "Transfer-Encoding", strings.TrimSpace(coding))
			r.Body = []byte(c.want)
			holdWhole(t, head, c.body, r)
			hold(t, head+c.body[:len(c.body)-1], told{n: len(head) + len(c.body) - 1, head: len(head), phase: parse.Body})
		}
	}
	head := first + host + "Transfer-Encoding: chunked" + end + end
	all := text(api.MaxBody)
	r := plain("Host", "a", "Transfer-Encoding", "chunked")
	r.Body = []byte(all)
	holdLong(t, head, sized(all)+last+end, r)
	holdLong(t, head, sized(all[:1])+sized(all[1:])+last+lines(254, 254)+end, r)
	holdLong(t, head, string(chunk.Encode([]byte(all[:700]), nil, []byte(all[700:]))), r)
}

// P15.1: a body in chunks is refused by each status of chapter 14, at its byte.
func TestWrongChunks(t *testing.T) {
	for _, head := range []string{first + host + "Transfer-Encoding: chunked" + end + end, first + host + "Transfer-Encoding: chunked" + end + "Expect: 100-continue" + end + end} {
		for _, s := range []string{"\n", "3\n", "x" + end, end, " 3" + end, "0000003" + end, "3;" + end, strings.Repeat("3", 65), "3" + end + "abcd", "3" + end + "abc\n", "3" + end + "abc\r\r", sized("abc") + "\n", sized("abc") + end, last + "\n", last + "x" + end, last + "X: y\n", last + " X: y" + end, last + "X: y" + end + "\n", next[:len(next)-len(end)]} {
			holdBodyStatus(t, 400, head, s)
		}
		for _, s := range []string{"801" + end, "ffffff" + end, sized("abc") + "7fe" + end} {
			holdBodyStatus(t, 413, head, s)
		}
		for _, s := range []string{last + lineOf(257), last + strings.Repeat("\r", 258), last + lines(250, 250) + "X: abcdef", last + strings.Repeat("T:u"+end, 9), sized("abc") + last + lines(255, 254)} {
			holdBodyStatus(t, 431, head, s)
		}
	}
	head := first + host + "Transfer-Encoding: chunked" + end + end
	body := sized(text(api.MaxBody)) + "1" + end
	holdInPieces(t, head+body, told{n: len(head + body), head: len(head), phase: parse.Bad, status: 413})
}

// P15.2: Minor is that of the start; with 0 a Host need not be, and Close is otherwise.
func TestMinors(t *testing.T) {
	for i := range 10 {
		version := " HTTP/1." + strconv.Itoa(i)
		r := plain("Host", "a")
		r.Minor, r.Close = min(i, 1), i == 0
		holdWhole(t, "GET /"+version+end+host+end, "", r)
		if i > 0 {
			holdStatus(t, 400, "GET /"+version+end+end)
		}
	}
	holdWhole(t, "GET / HTTP/1.0"+end+"Content-Length: 3"+end+end, "abc", api.Request{Method: "GET", Target: origin("/", ""), Fields: fields("Content-Length", "3"), Body: []byte("abc"), Close: true})
}

// P15.2: Close is chapter 12's, with each minor.
func TestClose(t *testing.T) {
	for _, c := range []struct {
		value      string
		elder, now bool
	}{
		{"", true, false}, {"x", true, false}, {"close", true, true}, {"CLOSE", true, true}, {"x, close", true, true}, {"keep-alive", false, false}, {"Keep-Alive", false, false}, {"close, keep-alive", true, true}, {"keep-alive,close", true, true}, {"closed", true, false}, {"keep-alive, x", false, false}, {",", true, false},
	} {
		for minor, want := range []bool{c.elder, c.now} {
			r := plain("Host", "a", "Connection", c.value)
			r.Minor, r.Close = minor, want
			head := "GET / HTTP/1." + strconv.Itoa(minor) + end + host + "Connection: " + c.value + end
			holdWhole(t, head+end, "", r)
			r.Fields = append(r.Fields, fields("Content-Length", "3")...)
			r.Body = []byte("abc")
			holdWhole(t, head+"Content-Length: 3"+end+end, "abc", r)
		}
	}
}

// P15.2: Expect is chapter 12's, and Waits holds behind such a head, until the body's first byte was taken.
func TestExpect(t *testing.T) {
	for _, c := range []struct {
		minor        int
		more, body   string
		expect, wait bool
	}{
		{1, "", "", false, false}, {1, "Content-Length: 0" + end, "", false, false}, {1, "Content-Length: 1" + end, "a", true, true}, {1, "Content-Length: 3" + end, "abc", true, true}, {1, "Transfer-Encoding: chunked" + end, last + end, true, true}, {1, "Transfer-Encoding: chunked" + end, sized("abc") + last + "X: y" + end + end, true, true},
		{0, "", "", false, false}, {0, "Content-Length: 3" + end, "abc", false, false},
	} {
		for _, expect := range []string{"100-continue", "100-Continue", "100-CONTINUE"} {
			head := "GET / HTTP/1." + strconv.Itoa(c.minor) + end + host + c.more + "Expect: " + expect + end + end
			p := parse.New()
			p.Feed([]byte(head))
			if p.Waits() != c.wait {
				t.Errorf("behind %s Waits is %v", short(head), p.Waits())
			}
			p.Feed([]byte(c.body))
			r, err := p.Take()
			if err != api.OK || r.Expect != c.expect || r.Close != (c.minor == 0) {
				t.Errorf("%s is %s, %v", short(head), short(r), err)
			}
			holdWhole(t, head, c.body, r)
		}
		for _, expect := range []string{"x", "", "100-continue, 100-continue", "100"} {
			head := "GET / HTTP/1." + strconv.Itoa(c.minor) + end + host + c.more + "Expect: " + expect + end + end
			if c.minor == 1 {
				holdStatus(t, 417, head)
			} else if p := holdWaits(t, head, false); p.Status() != 0 {
				t.Errorf("%s is %d", short(head), p.Status())
			}
		}
	}
}

// holdWaits holds whether somebody waits behind these bytes.
func holdWaits(t *testing.T, s string, want bool) *parse.Parser {
	t.Helper()
	p := parse.New()
	for i := range len(s) {
		if p.Waits() {
			t.Errorf("Waits holds behind %d of %s", i, short(s))
		}
		if n := p.Feed([]byte{s[i]}); n != 1 {
			t.Errorf("byte %d of %s: %d were taken", i, short(s), n)
		}
	}
	for range 2 {
		if p.Waits() != want {
			t.Errorf("behind %s Waits is %v", short(s), !want)
		}
	}
	return p
}

// P15.2: Waits holds behind the head of a body that is Expected, and there alone.
func TestWaits(t *testing.T) {
	const wait = "Expect: 100-continue" + end
	for _, c := range []struct{ more, body string }{
		{"Content-Length: 1" + end, "a"}, {"Content-Length: 2" + end, "\r\n"}, {"Transfer-Encoding: chunked" + end, last + end}, {"Transfer-Encoding: chunked" + end, sized("abc") + last + "X: y" + end + end},
	} {
		for _, head := range []string{first + host + c.more + wait + end, first + wait + c.more + host + end, end + first + c.more + host + wait + end} {
			p := holdWaits(t, head, true)
			p.Feed()
			p.Feed(nil, []byte{})
			if !p.Waits() {
				t.Errorf("behind no byte of the body of %s Waits is false", short(head))
			}
			p.Take()
			if !p.Waits() {
				t.Errorf("behind Take of %s Waits is false", short(head))
			}
			for i := range len(c.body) {
				p.Feed([]byte{c.body[i]})
				if p.Waits() {
					t.Errorf("behind %d bytes of the body of %s Waits is true", i+1, short(head))
				}
			}
			if p.Phase() != parse.Whole {
				t.Errorf("%s is not whole", short(head))
			}
			p.Take()
			if p.Waits() {
				t.Errorf("behind %s that was taken Waits is true", short(head))
			}
			// The head and the first byte in one piece.
			p = parse.New()
			p.Feed([]byte(head + c.body[:1]))
			if p.Waits() {
				t.Errorf("behind %s and a byte Waits is true", short(head))
			}
			p = parse.New()
			p.Feed([]byte(head), []byte(c.body[:1]))
			if p.Waits() {
				t.Errorf("behind %s and a byte in a row of its own Waits is true", short(head))
			}
		}
		holdWaits(t, first+host+c.more+end, false)
	}
	for _, s := range []string{"", first + host + wait, first + host + wait + end, first + host + wait + "Content-Length: 0" + end + end, "GET / HTTP/1.0" + end + "Content-Length: 3" + end + wait + end, first + wait + "Content-Length: 3" + end + end} {
		holdWaits(t, s, false)
	}
}

// P15.2: the fields of the head, all in their order, of one name, too, as they stood.
func TestFields(t *testing.T) {
	holdWhole(t, first+"Via: 1"+end+"hOST:  a \t"+end+"X:"+end+"via:2"+end+"VIA:\t3, 4"+end+"!#$%&'*+-.^_`|~: \x80\xff~ !"+end+"X: a: b"+end+"Content-Length: 0"+end+"Via: 1"+end+"Content-Length: 00"+end+end, "",
		plain("Via", "1", "hOST", "a", "X", "", "via", "2", "VIA", "3, 4", "!#$%&'*+-.^_`|~", "\x80\xff~ !", "X", "a: b", "Content-Length", "0", "Via", "1", "Content-Length", "00"))
	r := api.Request{Method: "GET", Target: origin("/", ""), Close: true}
	holdWhole(t, "GET / HTTP/1.0"+end+end, "", r)
	p := parse.New()
	p.Feed([]byte("GET / HTTP/1.0" + end + end))
	if got, err := p.Take(); err != api.OK || len(got.Fields) != 0 || len(got.Body) != 0 {
		t.Errorf("it is %s, %v", short(got), err)
	}
}

// P15.1: how many were taken, at each kind of end, with bytes of each kind behind.
func TestTaken(t *testing.T) {
	for _, x := range states() {
		if !x.w.over() {
			continue
		}
		for _, behind := range append(others(), text(1000), strings.Repeat(next, 50)) {
			holdEnd(t, x.w, holdPieces(t, x.w, x.s+behind), x.s)
			holdEnd(t, x.w, holdPieces(t, x.w, x.s, behind), x.s)
			holdEnd(t, x.w, holdPieces(t, x.w, x.s[:1], x.s[1:]+behind), x.s)
			holdEnd(t, x.w, holdRows(t, x.w, x.s+behind), x.s)
			holdEnd(t, x.w, holdRows(t, x.w, x.s, behind, behind), x.s)
			holdEnd(t, x.w, holdRows(t, x.w, x.s[:1], x.s[1:]+behind, "", behind), x.s)
		}
	}
}

// P15.1, P15.2: a refused Parser stays so, however often it is asked and given bytes.
func TestRefusedStays(t *testing.T) {
	for _, x := range states() {
		if x.w.phase != parse.Bad {
			continue
		}
		p := parse.New()
		p.Feed([]byte(x.s))
		for range 3 {
			holdOver(t, x.w, p, x.s)
		}
	}
}

// P15.1, P15.2: a whole one stays so until it is taken, and is taken once.
func TestWholeStays(t *testing.T) {
	for _, x := range states() {
		if x.w.phase != parse.Whole {
			continue
		}
		p := parse.New()
		for range 3 {
			if n := p.Feed([]byte(x.s + next)); n != len(x.s) {
				t.Errorf("of %s %d were taken", short(x.s), n)
			}
			for _, s := range others() {
				if n := p.Feed([]byte(s), []byte(s)); n != 0 || p.Phase() != parse.Whole || p.Status() != 0 || p.Waits() {
					t.Errorf("of %s behind %s %d were taken", short(s), short(x.s), n)
				}
			}
			holdEnd(t, x.w, p, x.s)
		}
	}
}

// kinds are requests of each kind, that are whole.
func kinds() []string {
	list := []string{
		next, first + host + end, end + end + first + host + "Connection: close" + end + end, first + host + "Content-Length: 0" + end + end,
		"POST /p HTTP/1.1" + end + host + "Content-Length: 3" + end + "Expect: 100-continue" + end + end + "a" + end,
		"PUT http://B/q?r HTTP/1.1" + end + host + "Transfer-Encoding: chunked" + end + end + sized("abc") + sized("d") + last + "X: y" + end + end,
		"POST / HTTP/1.1" + end + "Expect: 100-continue" + end + host + "Transfer-Encoding: chunked" + end + end + last + end,
		"OPTIONS * HTTP/1.0" + end + "Connection: keep-alive" + end + end,
		"PUT / HTTP/1.1" + end + host + "Content-Length: 300" + end + end + text(300),
	}
	return list
}

// alone are these requests, each of a Parser of its own.
func alone(t *testing.T, list []string) []api.Request {
	t.Helper()
	var all []api.Request
	for _, s := range list {
		p := parse.New()
		n := p.Feed([]byte(s))
		r, err := p.Take()
		if n != len(s) || err != api.OK {
			t.Fatalf("%s is %s, %v", short(s), short(r), err)
		}
		all = append(all, r)
	}
	return all
}

// takeAll is what is taken of bytes in pieces, one request behind the other, and how many bytes were left.
func takeAll(p *parse.Parser, pieces ...string) ([]api.Request, int) {
	var all []api.Request
	left := 0
	for _, s := range pieces {
		b := []byte(s)
		for {
			b = b[p.Feed(b):]
			r, err := p.Take()
			if err != api.OK {
				break
			}
			all = append(all, r)
		}
		left += len(b)
	}
	return all, left
}

// P15.2, P15.3: behind Take it is at the beginning: requests of each kind behind each kind, out of the bytes that were left.
func TestSeveralInTurn(t *testing.T) {
	list := kinds()
	want := alone(t, list)
	for i, a := range list {
		for k, b := range list {
			for cut := range len(a+b) + 1 {
				p := parse.New()
				got, left := takeAll(p, (a + b)[:cut], (a + b)[cut:])
				if !slices.EqualFunc(got, []api.Request{want[i], want[k]}, same) || left != 0 || p.Phase() != parse.Idle {
					t.Fatalf("%s and %s, cut at %d, are %s", short(a), short(b), cut, short(got))
				}
			}
		}
	}
	all := strings.Join(list, "")
	for _, n := range []int{1, 2, 3, 7, 64, 255, len(all)} {
		var pieces []string
		for b := range slices.Chunk([]byte(all+all+"x\n"), n) {
			pieces = append(pieces, string(b))
		}
		p := parse.New()
		got, left := takeAll(p, append(pieces, "more", next)...)
		if !slices.EqualFunc(got, append(slices.Clip(want), want...), same) || left != len("more")+len(next) || p.Phase() != parse.Bad || p.Status() != 400 {
			t.Errorf("in pieces of %d they are %s, and %d are left", n, short(got), left)
		}
	}
}

// P15.2: what was taken leaves nothing for the next: no field, no body, no empty line, no Expect, no Close.
func TestNothingIsLeft(t *testing.T) {
	for _, s := range kinds() {
		for _, x := range states() {
			p := parse.New()
			p.Feed([]byte(s))
			if _, err := p.Take(); err != api.OK {
				t.Fatalf("%s: %v", short(s), err)
			}
			if n := p.Feed([]byte(x.s + "\n")); n != x.w.n && x.w.over() {
				t.Fatalf("behind %s of %s %d were taken", short(s), short(x.s), n)
			}
			if x.w.over() {
				holdState(t, p, x.w, x.w.n, x.s)
				holdEnd(t, x.w, p, x.s)
			}
		}
		for _, x := range states() {
			p := parse.New()
			p.Feed([]byte(s))
			p.Take()
			for k := range len(x.s) {
				if n := p.Feed([]byte{x.s[k]}); n != 1 {
					t.Fatalf("behind %s byte %d of %s: %d were taken", short(s), k, short(x.s), n)
				}
				holdState(t, p, x.w, k+1, x.s)
			}
			holdEnd(t, x.w, p, x.s)
		}
	}
}

// P15.1: Feed of no row, of one, of many; the bytes of all rows are taken one behind the other, up to the end.
func TestRows(t *testing.T) {
	const s = "POST / HTTP/1.1\r\nHost: a\r\nContent-Length: 3\r\n\r\nabc"
	r := plain("Host", "a", "Content-Length", "3")
	r.Method, r.Body = "POST", []byte("abc")
	w := told{n: len(s), head: len(s) - 3, phase: parse.Whole, request: r}
	for i := range len(s) + 1 {
		for k := i; k <= len(s); k++ {
			holdEnd(t, w, holdRows(t, w, s[:i], s[i:k], s[k:]), s)
			holdEnd(t, w, holdRows(t, w, s[:i], "", s[i:k], "", s[k:]+"x", "", next), s)
		}
		less := told{n: i, phase: w.phaseAt(i), head: w.head, request: r}
		holdEnd(t, less, holdRows(t, less, s[:i]), s)
		holdEnd(t, less, holdRows(t, less, ones(s[:i])...), s)
	}
	if n := parse.New().Feed(); n != 0 {
		t.Errorf("of no row %d were taken", n)
	}
	// Rows behind the end are not taken, though a Take would make room.
	p := parse.New()
	if n := p.Feed([]byte(next), []byte(next), []byte(next)); n != len(next) {
		t.Errorf("of three requests %d were taken", n)
	}
	p = parse.New()
	if n := p.Feed([]byte("\n"), []byte("\n"), []byte(next)); n != 1 {
		t.Errorf("of what is refused and others %d were taken", n)
	}
	many := make([][]byte, 1<<16)
	many[1000], many[60000] = []byte(s[:20]), []byte(s[20:])
	p = parse.New()
	if n := p.Feed(many...); n != len(s) || p.Phase() != parse.Whole {
		t.Errorf("of many rows %d were taken", n)
	}
}

// W1: bytes of any length are taken up to the end.
func TestManyBytes(t *testing.T) {
	const much = 1 << 22
	for _, c := range []struct {
		s string
		w told
	}{
		{strings.Repeat("x", much), told{n: 257, phase: parse.Bad, status: 414}}, {strings.Repeat("\r", much), told{n: 258, phase: parse.Bad, status: 414}}, {strings.Repeat("\n", much), told{n: 1, phase: parse.Bad, status: 400}}, {strings.Repeat("\x00", much), told{n: 257, phase: parse.Bad, status: 414}}, {strings.Repeat(end, much), told{n: 10, phase: parse.Bad, status: 400}},
		{first + strings.Repeat("X", much), told{n: 273, phase: parse.Bad, status: 431}}, {first + strings.Repeat("X:"+end, much), told{n: 16 + 25*4, phase: parse.Bad, status: 431}},
		{next + strings.Repeat("x", much), told{n: len(next), phase: parse.Whole, request: api.Request{Method: "GET", Target: origin("/next", ""), Close: true}}},
	} {
		holdEnd(t, c.w, holdPieces(t, c.w, c.s), c.s[:300])
		holdEnd(t, c.w, holdRows(t, c.w, c.s, c.s), c.s[:300])
	}
}

// P15.4, W8: of a nil Parser Take answers ErrAgain, all else nothing.
func TestNil(t *testing.T) {
	var p *parse.Parser
	for range 2 {
		for _, s := range append(others(), kinds()...) {
			if n := p.Feed([]byte(s)); n != 0 {
				t.Errorf("nil took %d of %s", n, short(s))
			}
			if n := p.Feed([]byte(s), nil, []byte(s)); n != 0 {
				t.Errorf("nil took %d of the rows %s", n, short(s))
			}
			if p.Phase() != 0 || p.Status() != 0 || p.Waits() {
				t.Errorf("nil is %d, %d, %v", p.Phase(), p.Status(), p.Waits())
			}
			if r, err := p.Take(); err != api.ErrAgain || !same(r, api.Request{}) {
				t.Errorf("Take of nil is %s, %v", short(r), err)
			}
		}
		if n := p.Feed(); n != 0 {
			t.Errorf("nil took %d of no row", n)
		}
		if n := p.Feed(nil, nil); n != 0 {
			t.Errorf("nil took %d of nil", n)
		}
	}
}

// W1: a Parser that New did not make panics at nothing; it is as one at the beginning.
func TestZero(t *testing.T) {
	for _, x := range states() {
		p := &parse.Parser{}
		holdState(t, p, x.w, 0, "nothing")
		if n := p.Feed([]byte(x.s)); n != x.w.n {
			t.Errorf("of %s %d were taken", short(x.s), n)
		}
		holdState(t, p, x.w, x.w.n, x.s)
		holdEnd(t, x.w, p, x.s)
	}
	p := &parse.Parser{}
	holdAgain(t, p, told{}, 0, "nothing")
}

// P15.4, W6: what is handed in is left as it is, its spare room, too, and so are the rows.
func TestBytesAreLeftAlone(t *testing.T) {
	for _, x := range states() {
		room := []byte(x.s + "SPARE ROOM")
		p := parse.New()
		p.Feed(room[:len(x.s)])
		p.Take()
		if string(room) != x.s+"SPARE ROOM" {
			t.Errorf("%s became %s", short(x.s), short(string(room)))
		}
		half := len(x.s) / 2
		rows := [][]byte{room[:half], nil, room[half:len(x.s)], []byte("spare")}
		p = parse.New()
		p.Feed(rows[:3]...)
		p.Take()
		p.Feed(rows[:3]...)
		if string(room) != x.s+"SPARE ROOM" || string(rows[3]) != "spare" || string(rows[0]) != x.s[:half] || rows[1] != nil || string(rows[2]) != x.s[half:] {
			t.Errorf("the rows of %s became %s", short(x.s), short(rows))
		}
	}
}

// P15.4, W6: nothing of what was handed in is kept, when it is changed behind the call.
func TestBytesThatAreChangedAfterwards(t *testing.T) {
	list := kinds()
	want := alone(t, list)
	for i, s := range list {
		for cut := range len(s) + 1 {
			p := parse.New()
			rows := [][]byte{[]byte(s[:cut/2]), []byte(s[cut/2 : cut])}
			for _, l := range [][][]byte{rows, {[]byte(s[cut:])}} {
				p.Feed(l...)
				for _, b := range l {
					copy(b, strings.Repeat("?", len(b)))
				}
				clear(l)
			}
			r, err := p.Take()
			if err != api.OK || !same(r, want[i]) {
				t.Fatalf("%s, cut at %d, is %s, %v", short(s), cut, short(r), err)
			}
		}
		// The whole request is taken ahead of the change.
		p, b := parse.New(), []byte(s)
		p.Feed(b)
		r, _ := p.Take()
		copy(b, strings.Repeat("?", len(b)))
		if !same(r, want[i]) {
			t.Errorf("%s became %s", short(s), short(r))
		}
	}
}

// change changes all of a request that can be changed, spare room, too.
func change(r api.Request) {
	for i := range r.Body[:cap(r.Body)] {
		r.Body[:cap(r.Body)][i] = '?'
	}
	for i := range r.Fields[:cap(r.Fields)] {
		r.Fields[:cap(r.Fields)][i] = api.Field{Name: "changed", Value: "changed"}
	}
}

// P15.4, W6, W7: what was answered stays what it is behind later Feeds and Takes, and when it is changed, nothing else is.
func TestAnswersThatAreChangedAfterwards(t *testing.T) {
	list := kinds()
	want := alone(t, list)
	for i, a := range list {
		for k, b := range list {
			p := parse.New()
			p.Feed([]byte(a))
			one, _ := p.Take()
			for at := range len(b) {
				p.Feed([]byte{b[at]})
			}
			if !same(one, want[i]) {
				t.Errorf("%s became %s", short(a), short(one))
			}
			two, _ := p.Take()
			if !same(one, want[i]) || !same(two, want[k]) {
				t.Errorf("%s became %s, and %s is %s", short(a), short(one), short(b), short(two))
			}
			change(one)
			if !same(two, want[k]) {
				t.Errorf("%s became %s", short(b), short(two))
			}
			p.Feed([]byte(a))
			change(two)
			if three, _ := p.Take(); !same(three, want[i]) {
				t.Errorf("%s became %s", short(a), short(three))
			}
		}
		// It is changed while the next one comes.
		p := parse.New()
		p.Feed([]byte(a))
		one, _ := p.Take()
		for at := range len(a) {
			p.Feed([]byte{a[at]})
			change(one)
		}
		if two, err := p.Take(); err != api.OK || !same(two, want[i]) {
			t.Errorf("%s became %s, %v", short(a), short(two), err)
		}
	}
}

// shares tells whether two texts lie in the same memory.
func shares(a, b string) bool {
	from, to := uintptr(unsafe.Pointer(unsafe.StringData(a))), uintptr(unsafe.Pointer(unsafe.StringData(b)))
	return from < to+uintptr(len(b)) && to < from+uintptr(len(a))
}

// textOf is a list's text, with its spare room, in the list's memory.
func textOf(b []byte) string { return unsafe.String(unsafe.SliceData(b), cap(b)) }

// P15.4, W6: what is answered is new memory: it shares none with what was handed in, nor with another answer, nor within one.
func TestAnswersAreNewMemory(t *testing.T) {
	const s = "METHOD http://host:80/path?query HTTP/1.1\r\nHost: a-host\r\nFirst-Name: of a value\r\nSecond: another one\r\n"
	for _, body := range []string{"Content-Length: 5\r\n\r\nhello", "Transfer-Encoding: chunked\r\n\r\n5\r\nhello\r\n0\r\nTrailer: x\r\n\r\n"} {
		given := []byte(s + body)
		texts := []string{textOf(given)}
		var lists []uintptr
		p := parse.New()
		for range 3 {
			p.Feed(given)
			r, err := p.Take()
			if err != api.OK {
				t.Fatalf("Take: %v", err)
			}
			texts = append(texts, r.Method, r.Target.Host, r.Target.Path, r.Target.Query, textOf(r.Body))
			lists = append(lists, uintptr(unsafe.Pointer(unsafe.SliceData(r.Fields))))
			for _, x := range r.Fields {
				texts = append(texts, x.Name, x.Value)
			}
		}
		if len(texts) != 1+3*(5+8) || slices.Contains(texts, "") {
			t.Fatalf("told %q", texts)
		}
		for i, a := range texts {
			for _, b := range texts[:i] {
				if len(a) > 1 && len(b) > 1 && shares(a, b) { // Go itself keeps the texts of one byte only once
					t.Errorf("%q shares memory with %q", a, b)
				}
			}
		}
		slices.Sort(lists)
		if len(slices.Compact(lists)) != 3 {
			t.Errorf("lists of fields share memory")
		}
	}
}

// tell is all that a Parser tells of bytes; what is whole is taken.
func tell(p *parse.Parser, b []byte) string {
	n := p.Feed(b)
	s := fmt.Sprintf("%d %d %d %v ", n, p.Phase(), p.Status(), p.Waits())
	r, err := p.Take()
	return s + fmt.Sprintf("%q %d %d\n", fmt.Sprint(r), err, p.Phase())
}

// answers is all that a Parser tells, byte by byte.
func answers(p *parse.Parser, s string) string {
	var b strings.Builder
	for i := range len(s) {
		b.WriteString(tell(p, []byte{s[i]}))
	}
	return b.String()
}

// streams are bytes of each kind, several requests in turn, too.
func streams() []string {
	list := append(kinds(), strings.Join(kinds(), ""))
	for _, x := range states() {
		list = append(list, x.s)
	}
	return list
}

// P15.3, P0.7: two Parsers that are given the same bytes, or others, in turn tell each what one alone tells.
func TestTwoParsers(t *testing.T) {
	list := streams()
	var want []string
	for _, s := range list {
		want = append(want, answers(parse.New(), s))
	}
	for i, a := range list {
		one, other := parse.New(), parse.New()
		var gotOne, gotOther string
		for k := range len(a) {
			gotOne += tell(one, []byte{a[k]})
			gotOther += tell(other, []byte{a[k]})
		}
		if gotOne != want[i] || gotOther != want[i] {
			t.Errorf("%s tells %s and %s", short(a), short(gotOne), short(gotOther))
		}
	}
	for i, a := range list {
		for k, b := range list {
			if len(a) > 400 || len(b) > 400 {
				continue
			}
			one, other := parse.New(), parse.New()
			var gotOne, gotOther strings.Builder
			for at := range max(len(a), len(b)) {
				if at < len(a) {
					gotOne.WriteString(tell(one, []byte{a[at]}))
				}
				if at < len(b) {
					gotOther.WriteString(tell(other, []byte{b[at]}))
				}
			}
			if gotOne.String() != want[i] || gotOther.String() != want[k] {
				t.Errorf("%s and %s tell otherwise in turn", short(a), short(b))
			}
		}
	}
}

// P15.3, W2: many at once, each with a Parser of its own, are told what one is told.
func TestSeveralGoroutines(t *testing.T) {
	list := streams()
	var want []string
	for _, s := range list {
		want = append(want, answers(parse.New(), s))
	}
	var group sync.WaitGroup
	for range 8 {
		group.Go(func() {
			for i, s := range list {
				if got := answers(parse.New(), s); got != want[i] {
					t.Errorf("%s tells %s, not %s", short(s), short(got), short(want[i]))
				}
			}
		})
	}
	group.Wait()
}

// W8: a Parser that is copied as a value goes on as the one it was.
func TestCopied(t *testing.T) {
	for _, s := range streams() {
		want := answers(parse.New(), s)
		for i := 0; i < len(s); i += 1 + len(s)/50 {
			p := parse.New()
			got := answers(p, s[:i])
			copied := *p
			if got += answers(&copied, s[i:]); got != want {
				t.Errorf("%s, copied behind %d, tells %s, not %s", short(s), i, short(got), short(want))
			}
		}
	}
}

// The stub's shape: what a Parser holds is its own alone.
func TestNothingExported(t *testing.T) {
	x := reflect.TypeFor[parse.Parser]()
	for i := range x.NumField() {
		if x.Field(i).IsExported() {
			t.Errorf("a Parser shows %s", x.Field(i).Name)
		}
	}
	if n := reflect.TypeFor[*parse.Parser]().NumMethod(); n != 5 {
		t.Errorf("a Parser has %d methods", n)
	}
}
