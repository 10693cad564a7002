package spec_test

import (
	"bytes"
	"fmt"
	"reflect"
	"slices"
	"strconv"
	"strings"
	"sync"
	"testing"
	"unsafe"

	"usher/api"
	"usher/chunk"
	"usher/parse"
	"usher/spec"
)

const (
	end    = "\r\n"
	last   = "0" + end // the size line that ends the data
	first  = "GET / HTTP/1.1" + end
	elder  = "GET / HTTP/1.0" + end
	host   = "Host: a" + end
	closes = "Connection: close" + end
	keeps  = "Connection: keep-alive" + end
	waits  = "Expect: 100-continue" + end
	coding = "Transfer-Encoding: chunked" + end
	empty4 = end + end + end + end
	get    = first + host + end               // a request that lets others come behind it
	next   = "GET /next HTTP/1.0" + end + end // one that does not
)

// The face: what the document lists stands so, the fields of Rest in their order.
var (
	_ func([]byte) ([]api.Request, spec.Rest) = spec.Read
	_ func(api.Request, api.Request) bool     = spec.Same
	_                                         = struct{ Used, Phase, Status int }(spec.Rest{})
)

// told is what Read answers.
type told struct {
	requests []api.Request
	rest     spec.Rest
}

func read(s string) told {
	requests, rest := spec.Read([]byte(s))
	return told{requests, rest}
}

// short is a text that can be shown.
func short(v any) string { return fmt.Sprintf("%.400q", fmt.Sprintf("%+v", v)) }

// same tells whether two requests are one, a nil list and an empty one, too; it asks nothing of the package.
func same(a, b api.Request) bool { return reflect.DeepEqual(plain(a), plain(b)) }

// plain is a request whose empty lists are nil.
func plain(r api.Request) api.Request {
	if len(r.Fields) == 0 {
		r.Fields = nil
	}
	if len(r.Body) == 0 {
		r.Body = nil
	}
	return r
}

func sameTold(a, b told) bool {
	return a.rest == b.rest && slices.EqualFunc(a.requests, b.requests, same)
}

// fields are names and values, by turns.
func fields(l ...string) []api.Field {
	var all []api.Field
	for i := 0; i < len(l); i += 2 {
		all = append(all, api.Field{Name: l[i], Value: l[i+1]})
	}
	return all
}

func origin(path, query string) api.Target {
	return api.Target{Form: api.FormOrigin, Path: path, Query: query}
}

// request is a GET of / with minor 1, this body and these fields behind Host.
func request(body string, l ...string) api.Request {
	return api.Request{Method: "GET", Target: origin("/", ""), Minor: 1, Fields: fields(append([]string{"Host", "a"}, l...)...), Body: []byte(body)}
}

// withLength is a request with a length, and its bytes.
func withLength(body string) (string, api.Request) {
	n := strconv.Itoa(len(body))
	return first + host + "Content-Length: " + n + end + end + body, request(body, "Content-Length", n)
}

// inChunks is a request in chunks of these parts, with lines of trailers, and its bytes.
func inChunks(trailers string, parts ...string) (string, api.Request) {
	s, body := first+host+coding+end, ""
	for _, p := range parts {
		s, body = s+sized(p), body+p
	}
	return s + last + trailers + end, request(body, "Transfer-Encoding", "chunked")
}

// sized is one chunk of a text.
func sized(s string) string { return strconv.FormatInt(int64(len(s)), 16) + end + s + end }

// text is so many bytes, of which none is as its neighbours.
func text(n int) string {
	b := make([]byte, n)
	for i := range b {
		b[i] = byte(i * 7)
	}
	return string(b)
}

// byParser is what a Parser takes of bytes that come in pieces, as P16.1 says it.
func byParser(pieces ...string) told {
	var w told
	p, came := parse.New(), 0
	for _, s := range pieces {
		for b := []byte(s); ; {
			n := p.Feed(b)
			came, b = came+n, b[n:]
			r, err := p.Take()
			if err != api.OK {
				break
			}
			w.requests, w.rest.Used = append(w.requests, r), came
			if r.Close {
				return w
			}
		}
	}
	w.rest.Phase, w.rest.Status = p.Phase(), p.Status()
	return w
}

// ones are the bytes one by one, with empty pieces between.
func ones(s string) []string {
	l := []string{""}
	for i := range len(s) {
		l = append(l, s[i:i+1], "")
	}
	return l
}

// holdRead holds what Read answers: twice, and of bytes that it leaves as they are, the room behind them, too.
func holdRead(t *testing.T, s string, want told) {
	t.Helper()
	room := []byte(s + next)
	for range 2 {
		requests, rest := spec.Read(room[:len(s)])
		if got := (told{requests, rest}); !sameTold(got, want) {
			t.Fatalf("%s is %s, not %s", short(s), short(got), short(want))
		}
		if string(room) != s+next {
			t.Fatalf("%s became %s", short(s), short(string(room)))
		}
	}
}

// holdParser holds that a Parser is told the same: in one piece, one by one, and cut at places.
func holdParser(t *testing.T, s string, want told) {
	t.Helper()
	if got := byParser(s); !sameTold(got, want) {
		t.Fatalf("a Parser takes of %s %s, not %s", short(s), short(got), short(want))
	}
	if got := byParser(ones(s)...); !sameTold(got, want) {
		t.Fatalf("a Parser takes of %s, byte by byte, %s, not %s", short(s), short(got), short(want))
	}
	for i := range len(s) + 1 {
		if got := byParser(s[:i], s[i:]); !sameTold(got, want) {
			t.Fatalf("a Parser takes of %s, cut at %d, %s, not %s", short(s), i, short(got), short(want))
		}
	}
}

// holdBeginning holds that the first k bytes tell a beginning of what all of them tell, and what a Parser tells of them.
func holdBeginning(t *testing.T, s string, k int, want told) {
	t.Helper()
	part := read(s[:k])
	n := len(part.requests)
	if n > len(want.requests) || !slices.EqualFunc(part.requests, want.requests[:n], same) || part.rest.Used > min(k, want.rest.Used) {
		t.Fatalf("the first %d of %s are %s, but all %s", k, short(s), short(part), short(want))
	}
	if n == len(want.requests) && part.rest.Used != want.rest.Used {
		t.Fatalf("the first %d of %s are %s, but all %s", k, short(s), short(part), short(want))
	}
	if len(want.requests) > n && k >= want.rest.Used {
		t.Fatalf("the first %d of %s are %s alone", k, short(s), short(part))
	}
	if bad := part.rest.Phase == parse.Bad; bad && part.rest != want.rest {
		t.Fatalf("the first %d of %s are %s, but all %s", k, short(s), short(part), short(want))
	}
	if got := byParser(s[:k]); !sameTold(got, part) {
		t.Fatalf("a Parser takes of the first %d of %s %s, not %s", k, short(s), short(got), short(part))
	}
}

// hold holds what Read answers, beside a Parser, and beside Read of each beginning.
func hold(t *testing.T, s string, want told) {
	t.Helper()
	holdRead(t, s, want)
	holdParser(t, s, want)
	for k := range len(s) + 1 {
		holdBeginning(t, s, k, want)
	}
}

// holdAll holds whole requests, that all of the bytes are theirs, and what stands behind is none.
func holdAll(t *testing.T, s string, want ...api.Request) {
	t.Helper()
	hold(t, s, told{want, spec.Rest{Used: len(s), Phase: parse.Idle}})
}

// holdPhase holds bytes that are whole requests, and others behind that end in a phase.
func holdPhase(t *testing.T, phase int, ahead, behind string, want ...api.Request) {
	t.Helper()
	hold(t, ahead+behind, told{want, spec.Rest{Used: len(ahead), Phase: phase}})
}

// holdStatus holds bytes that are refused, as the first ones and behind whole requests, with others behind and without.
func holdStatus(t *testing.T, status int, s string) {
	t.Helper()
	sent, body := withLength("abc")
	for _, whole := range []struct {
		s        string
		requests []api.Request
	}{
		{"", nil}, {get, []api.Request{request("")}}, {sent + get, []api.Request{body, request("")}},
	} {
		want := told{whole.requests, spec.Rest{Used: len(whole.s), Phase: parse.Bad, Status: status}}
		hold(t, whole.s+s, want)
		for _, behind := range []string{"\n", end, "x", get, next, text(300), strings.Repeat("x", 300)} {
			all := whole.s + s + behind
			holdRead(t, all, want)
			holdBeginning(t, all, len(all), want)
		}
	}
}

// P16.1: the document's example: of two requests of HTTP/1.0 without Connection the first one alone.
func TestExample(t *testing.T) {
	one := api.Request{Method: "GET", Target: origin("/", ""), Close: true}
	const s = "GET / HTTP/1.0\r\n\r\n"
	requests, rest := spec.Read([]byte(s + s))
	if len(requests) != 1 || !same(requests[0], one) || rest != (spec.Rest{Used: 18}) {
		t.Errorf("they are %s, %+v", short(requests), rest)
	}
	hold(t, s+s, told{[]api.Request{one}, spec.Rest{Used: 18, Phase: parse.Idle}})
}

// P16.1: of no byte nothing, and it is Idle.
func TestNoByte(t *testing.T) {
	for _, b := range [][]byte{nil, {}, make([]byte, 0, 9), []byte(get)[:0]} {
		if requests, rest := spec.Read(b); len(requests) != 0 || rest != (spec.Rest{}) {
			t.Errorf("of no byte they are %s, %+v", short(requests), rest)
		}
	}
	holdAll(t, "")
}

// P16.1: requests of each kind, one alone and one behind each other one.
func TestWhole(t *testing.T) {
	t.Parallel()
	kinds := kinds()
	for _, one := range kinds {
		holdAll(t, one.s, one.r)
		for _, other := range kinds {
			holdRead(t, one.s+other.s, told{[]api.Request{one.r, other.r}, spec.Rest{Used: len(one.s + other.s)}})
			holdParser(t, one.s+other.s, told{[]api.Request{one.r, other.r}, spec.Rest{Used: len(one.s + other.s)}})
		}
	}
	var all string
	var want []api.Request
	for _, one := range kinds {
		all, want = all+one.s, append(want, one.r)
	}
	holdSome(t, all, told{want, spec.Rest{Used: len(all)}})
	holdSome(t, all+"x", told{want, spec.Rest{Used: len(all), Phase: parse.Head}})
	hold(t, all+"x"+end+get, told{want, spec.Rest{Used: len(all), Phase: parse.Bad, Status: 400}})
	one := api.Request{Method: "GET", Target: origin("/next", ""), Close: true}
	holdSome(t, all+next+all, told{append(slices.Clip(want), one), spec.Rest{Used: len(all + next)}})
}

// kind is bytes of one request that lets others come behind it.
type kind struct {
	s string
	r api.Request
}

// kinds are requests of each kind: of each form of a target, with each kind of body, of each minor.
func kinds() []kind {
	l := []kind{
		{get, request("")}, {empty4 + get, request("")},
		{first + host + "Content-Length: 0" + end + end, request("", "Content-Length", "0")},
		{first + host + "Content-Length: 00, 0" + end + end, request("", "Content-Length", "00, 0")},
		{"POST http://B:80/a%20b?c?d HTTP/1.9" + end + "hOST:\t" + end + "x:  y " + end + "X:" + end + end, api.Request{Method: "POST", Target: api.Target{Form: api.FormAbsolute, Host: "b:80", Path: "/a b", Query: "c?d"}, Minor: 1, Fields: fields("hOST", "", "x", "y", "X", "")}},
		{"CONNECT A:1 HTTP/1.1" + end + host + end, api.Request{Method: "CONNECT", Target: api.Target{Form: api.FormAuthority, Host: "a:1"}, Minor: 1, Fields: fields("Host", "a")}},
		{"OPTIONS * HTTP/1.0" + end + keeps + end, api.Request{Method: "OPTIONS", Target: api.Target{Form: api.FormAsterisk}, Fields: fields("Connection", "keep-alive")}},
		{elder + keeps + "Content-Length: 2" + end + end + "ab", api.Request{Method: "GET", Target: origin("/", ""), Fields: fields("Connection", "keep-alive", "Content-Length", "2"), Body: []byte("ab")}},
	}
	for _, body := range []string{"a", end, get, text(300)} {
		s, r := withLength(body)
		l = append(l, kind{s, r})
		s, r = inChunks("", body)
		l = append(l, kind{s, r})
	}
	for _, trailers := range []string{"", "X: y" + end, "Host: b" + end + closes + "Content-Length: 9" + end} {
		s, r := inChunks(trailers, "abc", "d")
		l = append(l, kind{s, r})
		s, r = inChunks(trailers)
		l = append(l, kind{s, r})
	}
	s, r := withLength("abc")
	r.Fields, r.Expect = append(fields("Expect", "100-continue"), r.Fields...), true
	l = append(l, kind{strings.Replace(s, host, waits+host, 1), r})
	s, r = inChunks("", "abc")
	r.Fields, r.Expect = append(fields("Expect", "100-continue"), r.Fields...), true
	return append(l, kind{strings.Replace(s, host, waits+host, 1), r})
}

// P16.1: bytes that end within a head, at each byte of it: Head, and Used tells nothing of them.
func TestWithinHead(t *testing.T) {
	sent, body := withLength("a" + end)
	for _, s := range []string{get, end + get, empty4 + next, "POST /a?b HTTP/1.1" + end + host + "X: y" + end + "Content-Length: 3" + end + end, first + host + coding + waits + end} {
		for k := 1; k < len(s); k++ {
			if got := read(s[:k]); len(got.requests) != 0 || got.rest != (spec.Rest{Phase: parse.Head}) {
				t.Fatalf("the first %d of %s are %s", k, short(s), short(got))
			}
			if got, want := read(sent+get+s[:k]), (told{[]api.Request{body, request("")}, spec.Rest{Used: len(sent + get), Phase: parse.Head}}); !sameTold(got, want) {
				t.Fatalf("%s and the first %d of %s are %s", short(sent+get), k, short(s), short(got))
			}
		}
	}
	for _, s := range []string{"G", "\r", end, empty4, "\x00", "GET", "GET ", "GET / HTTP/1.1", "GET / HTTP/1.1\r", first, first + "\r", first + "H", first + "Host", first + "Host:", first + "Host: a", first + "Host: a\r", first + host, first + host + "\r", first + "\r\r", "GET / HTTP/2.0", first + "x", first + "x\r"} {
		holdPhase(t, parse.Head, "", s)
		holdPhase(t, parse.Head, get, s, request(""))
		holdPhase(t, parse.Head, sent, s, body)
	}
}

// P16.1: bytes that end at the end of a head that has a body, or within the body: Body.
func TestWithinBody(t *testing.T) {
	sent, body := inChunks("X: y"+end, "ab")
	for _, c := range []struct{ head, body string }{
		{first + host + "Content-Length: 1" + end + end, ""}, {first + host + "Content-Length: 5" + end + end, "abcd"}, {first + host + "Content-Length: 30" + end + end, get}, {first + host + "Content-Length: 9" + end + waits + end, end + "\x00\xff"}, {elder + "Content-Length: 3" + end + end, "\n\r"}, {empty4 + first + host + "Content-Length: 2048" + end + end, text(300)},
		{first + host + coding + end, "3" + end + "abc" + end + last + "X: y" + end + "\r"}, {first + host + coding + waits + end, "0;a=b" + end}, {first + host + coding + end, "0003"}, {first + host + coding + closes + end, "11" + end + first + "\r"},
	} {
		for k := range len(c.body) + 1 {
			holdPhase(t, parse.Body, "", c.head+c.body[:k])
			holdPhase(t, parse.Body, sent, c.head+c.body[:k], body)
		}
	}
}

// P16.1: a body is any bytes: those of ends, of heads and of whole requests are no others.
func TestBodiesOfAnything(t *testing.T) {
	t.Parallel()
	for _, body := range []string{"\n", "\r", end, empty4 + end, "\r\r\n\n", first, host, get, next, get + next, "GET / HTTP/2.0" + end, "\x00", strings.Repeat("\xff", 9), last + end, sized("abc") + last + end, "Content-Length: 99" + end + end, strings.Repeat("x", api.MaxLine+9)} {
		s, r := withLength(body)
		holdAll(t, s+get, r, request(""))
		holdPhase(t, parse.Head, s, "x", r)
		holdPhase(t, parse.Body, "", s[:len(s)-1])
		s, r = inChunks("X: y"+end, body, body)
		holdAll(t, s+get, r, request(""))
		holdPhase(t, parse.Body, "", s[:len(s)-1])
	}
	for c := range 256 {
		s, r := withLength(string([]byte{byte(c)}))
		holdAll(t, s+s, r, r)
	}
}

// P16.1: a body has as many bytes as its length says, and what stands behind is of the next request.
func TestLengths(t *testing.T) {
	t.Parallel()
	if api.MaxBody != 2048 {
		t.Errorf("MaxBody is %d", api.MaxBody)
	}
	for n := range 40 {
		s, r := withLength(text(n))
		holdAll(t, s, r)
		holdRead(t, s+get+s, told{[]api.Request{r, request(""), r}, spec.Rest{Used: len(s + get + s)}})
	}
	for _, n := range []int{255, 256, 1024, api.MaxBody - 1, api.MaxBody} {
		s, r := withLength(text(n))
		holdSome(t, s+get+"x", told{[]api.Request{r, request("")}, spec.Rest{Used: len(s + get), Phase: parse.Head}})
		holdSome(t, s[:len(s)-1], told{nil, spec.Rest{Phase: parse.Body}})
		s, r = inChunks("", text(n))
		holdSome(t, s+get+"x", told{[]api.Request{r, request("")}, spec.Rest{Used: len(s + get), Phase: parse.Head}})
		s, r = inChunks("", text(n)[:n/2], text(n)[n/2:])
		holdSome(t, s, told{[]api.Request{r}, spec.Rest{Used: len(s)}})
		holdSome(t, s[:len(s)-1], told{nil, spec.Rest{Phase: parse.Body}})
	}
	for _, n := range []string{"2049", "02049", "4096", "999999999999999", "2049, 2049"} {
		holdStatus(t, 413, first+host+"Content-Length: "+n+end+end)
	}
	holdStatus(t, 413, first+host+coding+end+"801"+end)
	s, _ := inChunks("", text(api.MaxBody), "a")
	holdSome(t, get+s, told{[]api.Request{request("")}, spec.Rest{Used: len(get), Phase: parse.Bad, Status: 413}})
}

// holdSome holds long bytes, cut at some places alone.
func holdSome(t *testing.T, s string, want told) {
	t.Helper()
	holdRead(t, s, want)
	for _, n := range []int{len(s), 1, 2, 64, 255} {
		var pieces []string
		for b := range slices.Chunk([]byte(s), n) {
			pieces = append(pieces, "", string(b))
		}
		if got := byParser(pieces...); !sameTold(got, want) {
			t.Fatalf("a Parser takes of %s, in pieces of %d, %s, not %s", short(s), n, short(got), short(want))
		}
	}
	for i := 0; i <= len(s); i += 1 + len(s)/100 {
		if got := byParser(s[:i], s[i:]); !sameTold(got, want) {
			t.Fatalf("a Parser takes of %s, cut at %d, %s, not %s", short(s), i, short(got), short(want))
		}
		holdBeginning(t, s, i, want)
		holdBeginning(t, s, len(s)-i/20, want)
	}
}

// P16.1: empty lines count for the request ahead of whose start they stand, as many as EmptyLines for each.
func TestEmptyLines(t *testing.T) {
	if api.EmptyLines != 4 {
		t.Errorf("EmptyLines is %d", api.EmptyLines)
	}
	sent, body := withLength(empty4)
	for n := range api.EmptyLines + 1 {
		empty := strings.Repeat(end, n)
		holdAll(t, empty+get, request(""))
		holdAll(t, empty+get+empty+get+empty+sent, request(""), request(""), body)
		if n > 0 {
			holdPhase(t, parse.Head, empty+get, empty, request(""))
			holdPhase(t, parse.Head, sent, empty, body)
			holdPhase(t, parse.Head, "", empty)
		}
		holdPhase(t, parse.Head, sent+empty+get, empty+"\r", body, request(""))
		holdPhase(t, parse.Head, sent+empty+get, empty+"G", body, request(""))
		one := api.Request{Method: "GET", Target: origin("/next", ""), Close: true}
		hold(t, get+empty+next+empty+get, told{[]api.Request{request(""), one}, spec.Rest{Used: len(get + empty + next)}})
		holdStatus(t, 400, empty+"\n")
		holdStatus(t, 400, empty+" "+end)
	}
	for n := 1; n < 4; n++ {
		holdStatus(t, 400, empty4+strings.Repeat(end, n))
		holdStatus(t, 400, empty4+strings.Repeat(end, n)+get)
	}
}

// P16.1: Close is chapter 12's, with each minor; behind it nothing is read.
func TestClose(t *testing.T) {
	for _, c := range []struct {
		value      string
		elder, now bool
	}{
		{"", true, false}, {"x", true, false}, {"close", true, true}, {"CLOSE", true, true}, {"x, close", true, true}, {"keep-alive", false, false}, {"Keep-Alive", false, false}, {"close, keep-alive", true, true}, {"keep-alive,close", true, true}, {"closed", true, false}, {",", true, false},
	} {
		for minor, closed := range []bool{c.elder, c.now} {
			r := request("", "Connection", c.value)
			r.Minor, r.Close = minor, closed
			s := "GET / HTTP/1." + strconv.Itoa(minor) + end + host + "Connection: " + c.value + end
			holdClose(t, s+end, r)
			r.Fields, r.Body = append(r.Fields, fields("Content-Length", "2")...), []byte(end)
			holdClose(t, s+"Content-Length: 2"+end+end+end, r)
		}
	}
	r := api.Request{Method: "GET", Target: origin("/", ""), Close: true}
	holdClose(t, elder+end, r)
	holdClose(t, empty4+elder+end, r)
	r.Fields = fields("Host", "a")
	holdClose(t, elder+host+end, r)
	holdClose(t, get, request(""))
	r = request("ab", "Transfer-Encoding", "chunked", "Connection", "close", "Expect", "100-continue")
	r.Close, r.Expect = true, true
	holdClose(t, first+host+coding+closes+waits+end+sized("ab")+last+"X: y"+end+end, r)
	r = request("ab", "Transfer-Encoding", "chunked")
	holdClose(t, first+host+coding+end+sized("ab")+last+closes+end, r)
}

// holdClose holds a request with whatever stands behind it, and ahead of it; what is behind one with Close is told by nothing.
func holdClose(t *testing.T, s string, r api.Request) {
	t.Helper()
	holdAll(t, s, r)
	holdAll(t, get+s, request(""), r)
	for _, x := range []struct {
		behind string
		rest   spec.Rest
		more   []api.Request
	}{
		{get, spec.Rest{Used: len(get)}, []api.Request{request("")}}, {get + get, spec.Rest{Used: len(get + get)}, []api.Request{request(""), request("")}},
		{"G", spec.Rest{Phase: parse.Head}, nil}, {end, spec.Rest{Phase: parse.Head}, nil}, {"\r", spec.Rest{Phase: parse.Head}, nil}, {first + host, spec.Rest{Phase: parse.Head}, nil}, {get + "\x00", spec.Rest{Used: len(get), Phase: parse.Head}, []api.Request{request("")}},
		{first + host + "Content-Length: 3" + end + end + "ab", spec.Rest{Phase: parse.Body}, nil}, {first + host + coding + end, spec.Rest{Phase: parse.Body}, nil},
		{"\n", spec.Rest{Phase: parse.Bad, Status: 400}, nil}, {"GET / HTTP/2.0" + end + get, spec.Rest{Phase: parse.Bad, Status: 505}, nil}, {strings.Repeat("x", 300), spec.Rest{Phase: parse.Bad, Status: 414}, nil}, {get + empty4 + end, spec.Rest{Used: len(get), Phase: parse.Bad, Status: 400}, []api.Request{request("")}},
	} {
		want := told{append([]api.Request{r}, x.more...), x.rest}
		want.rest.Used += len(s)
		if r.Close {
			want = told{[]api.Request{r}, spec.Rest{Used: len(s), Phase: parse.Idle}}
		}
		hold(t, s+x.behind, want)
		want.requests = append([]api.Request{request("")}, want.requests...)
		want.rest.Used += len(get)
		holdRead(t, get+s+x.behind, want)
	}
}

// P16.1: minor is 0 or 1; with 0 a Host need not be, and there are no chunks.
func TestMinors(t *testing.T) {
	for i := range 10 {
		begun := "GET / HTTP/1." + strconv.Itoa(i) + end
		r := request("", "Connection", "keep-alive")
		r.Minor = min(i, 1)
		holdAll(t, begun+host+keeps+end+begun+host+keeps+end, r, r)
		if i > 0 {
			holdStatus(t, 400, begun+keeps+end)
			continue
		}
		r.Fields = r.Fields[1:]
		holdAll(t, begun+keeps+end+begun+keeps+end, r, r)
		holdStatus(t, 400, begun+host+coding+end)
	}
}

// P16.1: Expect is chapter 12's.
func TestExpect(t *testing.T) {
	for _, c := range []struct {
		begun, more, body string
		expect            bool
		status            int
	}{
		{first, "", "", false, 417}, {first, "Content-Length: 0" + end, "", false, 417}, {first, "Content-Length: 1" + end, "a", true, 417}, {first, coding, last + end, true, 417}, {first, coding, sized("abc") + last + end, true, 417},
		{elder, "", "", false, 0}, {elder, keeps, "", false, 0}, {elder, "Content-Length: 3" + end, "abc", false, 0},
	} {
		for _, expect := range []string{"100-continue", "100-CONTINUE", "x", ""} {
			s := c.begun + host + c.more + "Expect: " + expect + end + end + c.body
			got := read(s)
			if c.status != 0 && !strings.EqualFold(expect, "100-continue") {
				holdStatus(t, c.status, s)
				continue
			}
			if len(got.requests) != 1 || got.requests[0].Expect != c.expect || got.rest != (spec.Rest{Used: len(s)}) {
				t.Errorf("%s is %s", short(s), short(got))
			}
			hold(t, s, got)
		}
	}
}

// P16.1: each status of a head's lines.
func TestStatuses(t *testing.T) {
	t.Parallel()
	long := "/" + strings.Repeat("a", api.MaxTarget)
	for status, l := range map[int][]string{
		400: {
			"x" + end, "GET / HTTP/1.1 x" + end, "GET  / HTTP/1.1" + end, " GET / HTTP/1.1" + end, "GET /" + end, "G@T / HTTP/1.1" + end, "GET / http/1.1" + end, "GET / HTTP/1.10" + end, "GET /.. HTTP/1.1" + end, "GET /% HTTP/1.1" + end, "GET * HTTP/1.1" + end, "\x00" + end, "\xff" + end, " " + end, "\r" + end, "GET / HTTP/1.1\r" + end,
			first + "x" + end, first + " X: y" + end, first + ": y" + end, first + "X : y" + end, first + "X: \x00" + end, first + host + "\xff: y" + end, first + " " + end, first + first, first + "\r" + end, first + "Host: a\r" + end,
			first + end, first + host + host + end, first + "Host: a b" + end + end, first + "X: y" + end + end,
			first + host + "Content-Length: x" + end + end, first + host + "Content-Length:" + end + end, first + host + "Content-Length: 1, 2" + end + end, first + host + "Content-Length: -1" + end + end, first + host + "Content-Length: 1234567890123456" + end + end,
			first + host + "Content-Length: 1" + end + coding + end, first + host + "Transfer-Encoding:" + end + end, first + host + "Transfer-Encoding: chunked, gzip" + end + end, elder + coding + end, first + host + "Connection: a b" + end + end,
		},
		413: {first + host + "Content-Length: 2049" + end + end, elder + "Content-Length: 2049" + end + end},
		414: {"GET " + long + " HTTP/1.1" + end, "CONNECT " + long + " HTTP/1.0" + end},
		417: {first + host + "Expect: x" + end + end, first + host + "Expect:" + end + end, first + host + waits + waits + end},
		501: {first + host + "Transfer-Encoding: gzip, chunked" + end + end, first + host + "Transfer-Encoding: x" + end + "Transfer-Encoding: CHUNKED" + end + end},
		505: {"GET / HTTP/2.0" + end, "GET / HTTP/0.9" + end, "PRI * HTTP/2.0" + end},
	} {
		for _, s := range l {
			holdStatus(t, status, s)
			holdStatus(t, status, end+s)
		}
	}
}

// P16.1: an 0a that ends a line without an 0d ahead of it is 400, whatever the line says.
func TestNewlines(t *testing.T) {
	t.Parallel()
	for _, s := range []string{
		"\n", "x\n", "\r \n", "GET / HTTP/1.1\n", "GET / HTTP/2.0\n", "GET /" + strings.Repeat("a", 201) + " HTTP/1.1\n", strings.Repeat("x", api.MaxLine) + "\n", "GET / HTTP/1.1\rx\n",
		first + "\n", first + "Host: a\n", first + "x\n", first + strings.Repeat("x", api.MaxLine) + "\n", first + host + "\n", first + host + "Content-Length: 3" + end + "\n", first + host + "Content-Length: 2049" + end + "\n", first + host + strings.Repeat("X:y"+end, api.MaxFields-1) + "X: y\n", elder + "\n",
	} {
		holdStatus(t, 400, s)
		holdStatus(t, 400, empty4+s)
	}
}

// lineOf is a field's line of so many bytes, without its end.
func lineOf(n int) string { return "X:" + strings.Repeat("x", n-len("X:")) }

// startOf is a start line of so many bytes, without its end.
func startOf(n int) string {
	const behind = " / HTTP/1.1"
	return strings.Repeat("M", n-len(behind)) + behind
}

// P16.1: a line may have MaxLine bytes without its end; of more it is refused by 414 without a start, by 431 with one, however it goes on.
func TestLongLines(t *testing.T) {
	t.Parallel()
	if api.MaxLine != 256 {
		t.Errorf("MaxLine is %d", api.MaxLine)
	}
	for _, c := range []struct {
		status int
		begun  string
		line   func(int) string
	}{
		{414, "", startOf}, {414, empty4, startOf}, {431, first, lineOf}, {431, end + first + host, lineOf},
	} {
		for _, n := range []int{254, 255, 256} {
			for _, behind := range []string{"", "\r", end} {
				holdPhase(t, parse.Head, "", c.begun+c.line(n)+behind)
				holdPhase(t, parse.Head, get, c.begun+c.line(n)+behind, request(""))
			}
			holdStatus(t, 400, c.begun+c.line(n)+"\n")
		}
		for _, n := range []int{253, 254, 255} {
			holdPhase(t, parse.Head, "", c.begun+c.line(n)+"\r\r")
			holdStatus(t, 400, c.begun+c.line(n)+"\r\r\n")
			holdStatus(t, 400, c.begun+c.line(n-1)+"\rx\n")
		}
		for _, behind := range []string{"\r\r", "\rx", "x", "\x00", "\r\r\r\n", "\rx" + end, "x" + end, "xx\n", "x\n", "\r\r\n"} {
			holdStatus(t, c.status, c.begun+c.line(256)+behind)
		}
		for _, n := range []int{257, 258, 512, 1024, 1025} {
			holdStatus(t, c.status, c.begun+c.line(n))
			holdStatus(t, c.status, c.begun+c.line(n)+end)
			holdStatus(t, c.status, c.begun+strings.Repeat(" ", n))
		}
		holdPhase(t, parse.Head, "", c.begun+strings.Repeat("\r", 257))
		holdStatus(t, c.status, c.begun+strings.Repeat("\r", 258))
		holdStatus(t, 400, c.begun+strings.Repeat("\r", 257)+"\n")
	}
	r := request("")
	r.Method = strings.Repeat("M", 256-len(" / HTTP/1.1"))
	holdAll(t, startOf(256)+end+host+end+get, r, request(""))
	holdAll(t, first+host+lineOf(256)+end+end+get, request("", "X", strings.Repeat("x", 254)), request(""))
}

// headOf is a head of just so many bytes, with all ends, and its request.
func headOf(n int, begun string, l ...string) (string, api.Request) {
	s := begun
	for n-len(s) > len(end)+api.MaxLine+len(end) {
		s, l = s+lineOf(200)+end, append(l, "X", strings.Repeat("x", 198))
	}
	room := n - len(s) - len(end) - len(end)
	return s + lineOf(room) + end + end, request("", append(l, "X", strings.Repeat("x", room-2))...)
}

// P16.1: a head may have MaxHead bytes, the empty lines ahead of it, too; of more it is 431, as soon as the line ends by which it has them.
func TestMaxHead(t *testing.T) {
	t.Parallel()
	if api.MaxHead != 1024 {
		t.Errorf("MaxHead is %d", api.MaxHead)
	}
	for _, begun := range []string{first + host, empty4 + first + host} {
		for n := api.MaxHead - 2; n <= api.MaxHead; n++ {
			s, r := headOf(n, begun)
			holdSome(t, s, told{[]api.Request{r}, spec.Rest{Used: n}})
			holdSome(t, s+s+"x", told{[]api.Request{r, r}, spec.Rest{Used: 2 * n, Phase: parse.Head}})
		}
		for n := api.MaxHead + 1; n <= api.MaxHead+2; n++ {
			// It is the empty line by which the head has too many bytes.
			s, _ := headOf(n, begun)
			ahead := s[:n-len(end)]
			holdSome(t, ahead+"\r", told{nil, spec.Rest{Phase: parse.Head}})
			holdSome(t, ahead+"\n", told{nil, spec.Rest{Phase: parse.Bad, Status: 400}})
			for _, x := range []string{s, s + get, ahead + "x" + end, ahead + strings.Repeat("x", 256) + end} {
				holdSome(t, x, told{nil, spec.Rest{Phase: parse.Bad, Status: 431}})
				holdSome(t, get+x, told{[]api.Request{request("")}, spec.Rest{Used: len(get), Phase: parse.Bad, Status: 431}})
			}
			holdSome(t, ahead+strings.Repeat("x", 256), told{nil, spec.Rest{Phase: parse.Head}})
		}
		for n := api.MaxHead + 3; n <= api.MaxHead+5; n++ {
			// It is the line ahead of it.
			s, _ := headOf(n, begun)
			holdSome(t, s[:n-len(end)-1], told{nil, spec.Rest{Phase: parse.Head}})
			holdSome(t, s[:n-len(end)], told{nil, spec.Rest{Phase: parse.Bad, Status: 431}})
		}
	}
	// The body does not count.
	s, r := headOf(api.MaxHead, first+host+"Content-Length: 2000"+end, "Content-Length", "2000")
	r.Body = []byte(text(2000))
	holdSome(t, s+text(2000)+get, told{[]api.Request{r, request("")}, spec.Rest{Used: api.MaxHead + 2000 + len(get)}})
}

// P16.1: a head may have MaxFields fields; 431 at one more. Trailers are no fields of the head.
func TestManyFields(t *testing.T) {
	if api.MaxFields != 24 {
		t.Errorf("MaxFields is %d", api.MaxFields)
	}
	s, l := first+host+coding, []string{"Transfer-Encoding", "chunked"}
	for i := 2; i < api.MaxFields; i++ {
		n := strconv.Itoa(i)
		s, l = s+"X-"+n+": "+n+end, append(l, "X-"+n, n)
	}
	holdAll(t, s+end+last+strings.Repeat("T: u"+end, 8)+end+get, request("", l...), request(""))
	holdStatus(t, 431, s+"Y: z"+end)
	holdStatus(t, 400, s+"Y z"+end)
	holdStatus(t, 400, s+"Y: z\n")
}

// P16.1: each status of a body in chunks.
func TestWrongChunks(t *testing.T) {
	t.Parallel()
	for status, l := range map[int][]string{
		400: {"\n", "3\n", "x" + end, end, " 3" + end, "0000003" + end, "3;" + end, strings.Repeat("3", 65), "3" + end + "abcd", "3" + end + "abc\n", "3" + end + "abc\r\r", sized("abc") + "\n", sized("abc") + end, last + "\n", last + "x" + end, last + "X: y\n", last + " X: y" + end, last + "X: y" + end + "\n", get, "801\n"},
		413: {"801" + end, "ffffff" + end, sized("abc") + "7fe" + end},
		431: {last + lineOf(257), last + strings.Repeat("\r", 258), last + lineOf(250) + end + lineOf(250) + end + "X: abcdef", last + strings.Repeat("T:u"+end, 9)},
	} {
		for _, s := range l {
			holdStatus(t, status, first+host+coding+end+s)
			holdStatus(t, status, end+first+host+coding+closes+waits+end+s)
		}
	}
}

// W1, W10: bytes of any length, requests of any number.
func TestManyBytes(t *testing.T) {
	const much = 1 << 22
	for s, want := range map[string]spec.Rest{
		"x": {Phase: parse.Bad, Status: 414}, "\r": {Phase: parse.Bad, Status: 414}, "\n": {Phase: parse.Bad, Status: 400}, "\x00": {Phase: parse.Bad, Status: 414}, end: {Phase: parse.Bad, Status: 400}, next: {Used: len(next)}, "X:" + end: {Phase: parse.Bad, Status: 400},
	} {
		if got := read(strings.Repeat(s, much/len(s))); got.rest != want || len(got.requests) != min(want.Used, 1) {
			t.Errorf("many %q are %s", s, short(got))
		}
	}
	if got := read(first + strings.Repeat("X", much)); got.rest != (spec.Rest{Phase: parse.Bad, Status: 431}) {
		t.Errorf("a long line is %s", short(got))
	}
	sent, _ := withLength(text(2000))
	for _, s := range []string{get, sent} {
		n := much / len(s)
		got := read(strings.Repeat(s, n) + "x")
		if len(got.requests) != n || got.rest != (spec.Rest{Used: n * len(s), Phase: parse.Head}) {
			t.Errorf("%d of %s are %d, %+v", n, short(s), len(got.requests), got.rest)
		}
		for _, r := range got.requests {
			if !same(r, got.requests[0]) {
				t.Fatalf("they are %s and %s", short(got.requests[0]), short(r))
			}
		}
	}
}

// streams are bytes of each kind.
func streams() []string {
	var l []string
	all := ""
	for _, one := range kinds() {
		l, all = append(l, one.s), all+one.s
	}
	return append(l, all, all+next+all, all+"x", all+"\n", all+first+host+"Content-Length: 9"+end+end+"ab", "", "\n", strings.Repeat("x", 300), get+first+host+coding+end+"801"+end)
}

// P16.3, W6: nothing of what was handed in is kept, when it is changed behind the call.
func TestBytesThatAreChangedAfterwards(t *testing.T) {
	for _, s := range streams() {
		want := read(s)
		b := []byte(s)
		requests, rest := spec.Read(b)
		copy(b, strings.Repeat("?", len(b)))
		if got := (told{requests, rest}); !sameTold(got, want) {
			t.Errorf("%s became %s, not %s", short(s), short(got), short(want))
		}
	}
}

// change changes all of what was answered that can be changed, spare room, too.
func change(l []api.Request) {
	l = l[:cap(l)]
	for i := range l {
		body, laid := l[i].Body[:cap(l[i].Body)], l[i].Fields[:cap(l[i].Fields)]
		for k := range body {
			body[k] = '?'
		}
		for k := range laid {
			laid[k] = api.Field{Name: "changed", Value: "changed"}
		}
		l[i] = api.Request{Method: "changed"}
	}
}

// P16.3, W6, W7: what was answered stays what it is, and when it is changed, no other answer is, nor what was handed in.
func TestAnswersThatAreChangedAfterwards(t *testing.T) {
	for _, s := range streams() {
		b := []byte(s)
		want := read(s)
		one, _ := spec.Read(b)
		two, rest := spec.Read(b)
		change(one)
		if got := (told{two, rest}); !sameTold(got, want) || string(b) != s {
			t.Errorf("%s became %s, of %s", short(want), short(got), short(string(b)))
		}
		three, rest := spec.Read(b)
		change(two)
		if got := (told{three, rest}); !sameTold(got, want) || string(b) != s {
			t.Errorf("%s became %s, of %s", short(want), short(got), short(string(b)))
		}
		// One request of an answer is changed, and the others stay.
		for i := range three {
			four, _ := spec.Read(b)
			change(four[i : i+1 : i+1])
			for k := range four {
				if k != i && !same(four[k], want.requests[k]) {
					t.Errorf("%s became %s", short(want.requests[k]), short(four[k]))
				}
			}
		}
	}
}

// shares tells whether two texts lie in the same memory.
func shares(a, b string) bool {
	from, to := uintptr(unsafe.Pointer(unsafe.StringData(a))), uintptr(unsafe.Pointer(unsafe.StringData(b)))
	return from < to+uintptr(len(b)) && to < from+uintptr(len(a))
}

// roomOf is a list's bytes, with its spare room, as a text in the list's memory.
func roomOf[T any](l []T) string {
	var one T
	return unsafe.String((*byte)(unsafe.Pointer(unsafe.SliceData(l))), cap(l)*int(unsafe.Sizeof(one)))
}

// P16.3, W6: what is answered is new memory: it shares none with what was handed in, nor with another answer, nor within one.
func TestAnswersAreNewMemory(t *testing.T) {
	const s = "METHOD http://host:80/path?query HTTP/1.1\r\nHost: a-host\r\nFirst-Name: of a value\r\nSecond: another one\r\n"
	given := []byte(s + "Content-Length: 5\r\n\r\nhello" + s + "Transfer-Encoding: chunked\r\n\r\n5\r\nhello\r\n0\r\nTrailer: x\r\n\r\n" + s + "Connection: close\r\n\r\n" + s)
	texts := []string{roomOf(given)}
	for range 2 {
		requests, rest := spec.Read(given)
		if len(requests) != 3 || rest.Phase != parse.Idle {
			t.Fatalf("they are %s, %+v", short(requests), rest)
		}
		texts = append(texts, roomOf(requests))
		for _, r := range requests {
			texts = append(texts, r.Method, r.Target.Host, r.Target.Path, r.Target.Query, roomOf(r.Body), roomOf(r.Fields))
			for _, x := range r.Fields {
				texts = append(texts, x.Name, x.Value)
			}
		}
	}
	for i, a := range texts {
		for _, b := range texts[:i] {
			if len(a) > 1 && len(b) > 1 && shares(a, b) { // Go itself keeps the texts of one byte only once
				t.Errorf("%q shares memory with %q", short(a), short(b))
			}
		}
	}
}

// P16.3, W2: many at once are told what one is told.
func TestSeveralGoroutines(t *testing.T) {
	list := streams()
	var want []told
	var given [][]byte
	for _, s := range list {
		want, given = append(want, read(s)), append(given, []byte(s))
	}
	var group sync.WaitGroup
	for range 8 {
		group.Go(func() {
			for i, b := range given {
				requests, rest := spec.Read(b)
				if got := (told{requests, rest}); !sameTold(got, want[i]) {
					t.Errorf("%s is %s, not %s", short(list[i]), short(got), short(want[i]))
				}
				for k, r := range requests {
					if !spec.Same(r, want[i].requests[k]) {
						t.Errorf("%s is not itself", short(r))
					}
				}
			}
		})
	}
	group.Wait()
}

// P16.1: bytes that Encode of chapter 14 makes are read as what they were made of.
func TestEncoded(t *testing.T) {
	for _, parts := range [][]string{{}, {""}, {"a"}, {"ab", "", "c"}, {get, next}, {text(1000), text(1048)}} {
		var rows [][]byte
		for _, p := range parts {
			rows = append(rows, []byte(p))
		}
		s := first + host + coding + end + string(chunk.Encode(rows...))
		want := told{[]api.Request{request(strings.Join(parts, ""), "Transfer-Encoding", "chunked"), request("")}, spec.Rest{Used: len(s + get)}}
		holdRead(t, s+get, want)
		if got := byParser(s, get); !sameTold(got, want) {
			t.Errorf("a Parser takes %s, not %s", short(got), short(want))
		}
	}
}

// unlike are requests, of which each is unlike all others, many of them in one thing alone.
func unlike() []api.Request {
	base := func() api.Request {
		return api.Request{Method: "POST", Target: api.Target{Form: 2, Host: "host", Path: "/path", Query: "query"}, Minor: 1, Fields: fields("Host", "a", "Via", "b"), Body: []byte("body")}
	}
	l := []api.Request{base(), {}}
	for _, f := range []func(*api.Request){
		func(r *api.Request) { r.Method = "post" },
		func(r *api.Request) { r.Method = "POSt" },
		func(r *api.Request) { r.Method = "" },
		func(r *api.Request) { r.Method = "PUT" },
		func(r *api.Request) { r.Method = "POST " },
		func(r *api.Request) { r.Target = api.Target{} },
		func(r *api.Request) { r.Target.Form = 1 },
		func(r *api.Request) { r.Target.Form = -1 },
		func(r *api.Request) { r.Target.Host = "" },
		func(r *api.Request) { r.Target.Host = "hosT" },
		func(r *api.Request) { r.Target.Host = "host/path" },
		func(r *api.Request) { r.Target.Path = "" },
		func(r *api.Request) { r.Target.Path = "/patH" },
		func(r *api.Request) { r.Target.Path = "/path?query" },
		func(r *api.Request) { r.Target.Query = "" },
		func(r *api.Request) { r.Target.Query = "querY" },
		func(r *api.Request) { r.Target.Host, r.Target.Query = "query", "host" },
		func(r *api.Request) { r.Minor = 0 },
		func(r *api.Request) { r.Minor = 2 },
		func(r *api.Request) { r.Minor = -1 },
		func(r *api.Request) { r.Fields = nil },
		func(r *api.Request) { r.Fields = r.Fields[:1] },
		func(r *api.Request) { r.Fields = r.Fields[1:] },
		func(r *api.Request) { r.Fields = append(r.Fields, api.Field{}) },
		func(r *api.Request) { r.Fields = append(r.Fields, r.Fields[1]) },
		func(r *api.Request) { r.Fields = append(r.Fields, r.Fields...) },
		func(r *api.Request) { slices.Reverse(r.Fields) },
		func(r *api.Request) { r.Fields[0].Name = "host" },
		func(r *api.Request) { r.Fields[0].Name = "Hos" },
		func(r *api.Request) { r.Fields[0].Name = "" },
		func(r *api.Request) { r.Fields[0].Value = "A" },
		func(r *api.Request) { r.Fields[0].Value = "a " },
		func(r *api.Request) { r.Fields[0].Value = "" },
		func(r *api.Request) { r.Fields[0] = api.Field{Name: "Hosta"} },
		func(r *api.Request) { r.Fields[0] = api.Field{Name: "a", Value: "Host"} },
		func(r *api.Request) { r.Fields[1].Name = "VIA" },
		func(r *api.Request) { r.Fields[1].Value = "c" },
		func(r *api.Request) { r.Fields[0].Value, r.Fields[1].Value = "b", "a" },
		func(r *api.Request) { r.Body = nil },
		func(r *api.Request) { r.Body = []byte("bodY") },
		func(r *api.Request) { r.Body = []byte("Body") },
		func(r *api.Request) { r.Body = []byte("bod") },
		func(r *api.Request) { r.Body = []byte("body\x00") },
		func(r *api.Request) { r.Body = []byte("ydob") },
		func(r *api.Request) { r.Body = []byte{0} },
		func(r *api.Request) { r.Close = true },
		func(r *api.Request) { r.Expect = true },
		func(r *api.Request) { r.Close, r.Expect = true, true },
	} {
		r := base()
		f(&r)
		l = append(l, r)
	}
	return l
}

// copied is a request in memory of its own, with spare room behind its lists.
func copied(r api.Request) api.Request {
	r.Method, r.Target.Host, r.Target.Path, r.Target.Query = strings.Clone(r.Method), strings.Clone(r.Target.Host), strings.Clone(r.Target.Path), strings.Clone(r.Target.Query)
	laid := make([]api.Field, 0, len(r.Fields)+2)
	for _, x := range r.Fields {
		laid = append(laid, api.Field{Name: strings.Clone(x.Name), Value: strings.Clone(x.Value)})
	}
	body := append(make([]byte, 0, len(r.Body)+2), r.Body...)
	copy(body[len(body):cap(body)], "??")
	r.Fields, r.Body = laid, body
	return r
}

// P16.2: Same holds of all fields: of requests that are alike, and of none that part in one thing, whichever comes first; it changes neither.
func TestSame(t *testing.T) {
	one, other := unlike(), unlike()
	for i, a := range one {
		if !spec.Same(a, a) || !spec.Same(a, copied(a)) || !spec.Same(copied(a), a) {
			t.Errorf("%s is not the Same as itself", short(a))
		}
		for k, b := range other {
			if got := spec.Same(a, b); got != (i == k) {
				t.Errorf("Same of %s and %s is %v", short(a), short(b), got)
			}
			if got := spec.Same(b, a); got != (i == k) {
				t.Errorf("Same of %s and %s is %v", short(b), short(a), got)
			}
		}
	}
	for i, r := range unlike() {
		if !reflect.DeepEqual(one[i], r) || !reflect.DeepEqual(other[i], r) {
			t.Errorf("%s became %s and %s", short(r), short(one[i]), short(other[i]))
		}
	}
	room := []api.Field{{Name: "a"}, {Name: "b"}}
	body := []byte("ab")
	r := api.Request{Fields: room[:1], Body: body[:1]}
	if !spec.Same(r, copied(r)) || room[1].Name != "b" || string(body) != "ab" {
		t.Errorf("%s became %s", short(r), short(room))
	}
}

// P16.2, W5: a nil list and an empty one are the same; the zero request is the Same as itself.
func TestSameOfNothing(t *testing.T) {
	var l []api.Request
	for _, laid := range [][]api.Field{nil, {}, make([]api.Field, 0, 3)} {
		for _, body := range [][]byte{nil, {}, make([]byte, 0, 3)} {
			l = append(l, api.Request{Fields: laid, Body: body})
		}
	}
	for _, a := range l {
		for _, b := range l {
			if !spec.Same(a, b) {
				t.Errorf("Same of %#v and %#v is false", a, b)
			}
		}
		for _, b := range []api.Request{{Fields: []api.Field{{}}}, {Body: []byte{0}}, {Fields: fields("a", "b")}} {
			if spec.Same(a, b) || spec.Same(b, a) {
				t.Errorf("Same of %#v and %#v is true", a, b)
			}
		}
	}
}

// P16.2: each byte of each text, and of the body, counts, wherever it stands, and so does its size.
func TestSameByteByByte(t *testing.T) {
	const s = "aB\x00\xff~ 1"
	texts := func(r *api.Request) []*string {
		return []*string{&r.Method, &r.Target.Host, &r.Target.Path, &r.Target.Query, &r.Fields[0].Name, &r.Fields[0].Value, &r.Fields[1].Name, &r.Fields[1].Value}
	}
	build := func() api.Request {
		r := api.Request{Fields: make([]api.Field, 2), Body: []byte(s)}
		for _, x := range texts(&r) {
			*x = s
		}
		return r
	}
	for i := range len(s) {
		for c := range 256 {
			want := s[i] == byte(c)
			changed := []byte(s)
			changed[i] = byte(c)
			for k := range texts(&api.Request{Fields: make([]api.Field, 2)}) {
				r := build()
				*texts(&r)[k] = string(changed)
				if spec.Same(r, build()) != want || spec.Same(build(), r) != want {
					t.Errorf("text %d with byte %d %#x: Same is %v", k, i, c, !want)
				}
			}
			r := build()
			r.Body = changed
			if spec.Same(r, build()) != want || spec.Same(build(), r) != want {
				t.Errorf("the body with byte %d %#x: Same is %v", i, c, !want)
			}
		}
	}
	// Long ones part at the end alone.
	a, b := build(), build()
	a.Body, b.Body = bytes.Repeat([]byte("x"), 1<<20), bytes.Repeat([]byte("x"), 1<<20)
	if !spec.Same(a, b) {
		t.Errorf("Same of long bodies is false")
	}
	b.Body[1<<20-1] = 'y'
	if spec.Same(a, b) {
		t.Errorf("Same of bodies that part at the end is true")
	}
}

// P16.1, P16.2: requests that Read answers are the Same if their bytes say the same, and no others.
func TestSameOfRead(t *testing.T) {
	t.Parallel()
	l := kinds()
	for i, a := range l {
		one := read(a.s).requests[0]
		if !spec.Same(one, a.r) || !spec.Same(a.r, one) || !spec.Same(one, read(get + a.s).requests[1]) {
			t.Errorf("%s is not the Same as %s", short(one), short(a.r))
		}
		for _, b := range l[:i] {
			if got, want := spec.Same(one, read(b.s).requests[0]), same(a.r, b.r); got != want {
				t.Errorf("Same of %s and %s is %v", short(a.s), short(b.s), got)
			}
		}
	}
}
