package parse_test

import (
	"math/rand/v2"
	"slices"
	"strconv"
	"strings"
	"testing"

	"usher/api"
	"usher/chunk"
	"usher/head"
	"usher/parse"
)

// model is what is told of the first request of these bytes: it looks at them as a whole, line by line, and at what is left as a body.
func model(s string) told {
	h, at, started := head.New(), 0, false
	for s != "" {
		line, _, ended := strings.Cut(s[at:], "\n")
		if k := tooMany(line); k > 0 && started {
			return told{n: at + k, phase: parse.Bad, status: 431}
		} else if k > 0 {
			return told{n: at + k, phase: parse.Bad, status: 414}
		}
		if !ended {
			return told{n: len(s), phase: parse.Head}
		}
		at += len(line) + 1
		text, ok := strings.CutSuffix(line, "\r")
		if !ok {
			return told{n: at, phase: parse.Bad, status: 400}
		}
		whole, status := h.Line(text)
		started = started || text != ""
		switch {
		case status != 0:
			return told{n: at, phase: parse.Bad, status: status}
		case whole:
			return bodyModel(h, s, at)
		}
	}
	return told{}
}

// tooMany is the number of the byte by which a line has too many; 0: it has not.
func tooMany(line string) int {
	switch {
	case len(line) > 256 && line[256] != '\r':
		return 257
	case len(line) > 257:
		return 258
	}
	return 0
}

// bodyModel is of what stands behind a whole head of so many bytes.
func bodyModel(h *head.Head, s string, at int) told {
	how := h.How()
	w := told{n: at, phase: parse.Whole}
	w.request = api.Request{Fields: h.Fields.All(), Close: how.Close, Expect: how.Expect}
	w.request.Method, w.request.Target, w.request.Minor = h.Start()
	rest := s[at:]
	switch {
	case how.Kind == api.BodyChunked:
		r := chunk.New()
		n, whole, status := r.Feed([]byte(rest))
		w.n, w.head, w.status = at+n, at, status
		w.request.Body = r.Body()
		if status != 0 {
			w.phase = parse.Bad
		} else if !whole {
			w.phase = parse.Body
		}
	case how.Length > 0:
		n := min(how.Length, len(rest))
		w.n, w.head = at+n, at
		w.request.Body = []byte(rest[:n])
		if n < how.Length {
			w.phase = parse.Body
		}
	}
	w.waits = how.Expect
	return w
}

// rest is chapter 16's word of what stands behind the requests.
type rest struct{ used, phase, status int }

// readModel is what chapter 16 says of all of these bytes.
func readModel(s string) ([]api.Request, rest) {
	var all []api.Request
	used := 0
	for {
		w := model(s[used:])
		if w.phase != parse.Whole {
			return all, rest{used, w.phase, w.status}
		}
		all = append(all, w.request)
		used += w.n
		if w.request.Close {
			return all, rest{used, parse.Idle, 0}
		}
	}
}

// read is that of bytes that come in pieces, by a Parser.
func read(pieces ...string) ([]api.Request, rest) {
	var all []api.Request
	p, used, came := parse.New(), 0, 0
	for _, s := range pieces {
		for b := []byte(s); ; {
			n := p.Feed(b)
			came, b = came+n, b[n:]
			r, err := p.Take()
			if err != api.OK {
				break
			}
			all, used = append(all, r), came
			if r.Close {
				return all, rest{used, p.Phase(), p.Status()}
			}
		}
	}
	return all, rest{used, p.Phase(), p.Status()}
}

// holdRead holds what comes in the end of bytes that come in pieces.
func holdRead(t *testing.T, want []api.Request, wantRest rest, pieces ...string) {
	got, gotRest := read(pieces...)
	if !slices.EqualFunc(got, want, same) || gotRest != wantRest {
		t.Fatalf("%s are %s, %v, not %s, %v", short(pieces), short(got), gotRest, short(want), wantRest)
	}
}

// holdModel holds what is told of bytes behind each one, and in the end, in one piece, in two and in three.
func holdModel(t *testing.T, s string) {
	w := model(s)
	holdEnd(t, w, holdPieces(t, w, ones(s)...), s)
	holdCuts(t, s, w)
	want, wantRest := readModel(s)
	holdRead(t, want, wantRest, s)
	holdRead(t, want, wantRest, ones(s)...)
}

// holdCuts holds what is told in the end, of one piece, of two and of three, by several Feeds and by one.
func holdCuts(t *testing.T, s string, w told) {
	holdEnd(t, w, holdPieces(t, w, s), s)
	for i := 0; i <= len(s); i += 1 + len(s)/5 {
		holdEnd(t, w, holdPieces(t, w, s[:i], s[i:]), s)
		k := i + (len(s)-i)/3
		holdEnd(t, w, holdRows(t, w, s[:i], s[i:k], "", s[k:]), s)
	}
}

// eachRow goes through all rows of so many of these.
func eachRow(kinds []string, n int, do func(string)) {
	var from func(string, int)
	from = func(s string, i int) {
		if i == n {
			do(s)
			return
		}
		for _, k := range kinds {
			from(s+k, i+1)
		}
	}
	from("", 0)
}

// P15.1 to P15.3: all heads of a few pieces.
func TestAllHeads(t *testing.T) {
	t.Parallel()
	eachRow([]string{"", "G / HTTP/1.0", "\r", "\n", "\r\n", "X:y"}, 6, func(s string) { holdModel(t, s) })
	eachRow([]string{"", " ", "/", "\r", "\r\n", "HTTP/1.0", "\n"}, 5, func(s string) { holdModel(t, "G"+s+"\r\n\r\n") })
}

// P15.1 to P15.3: all requests of a few pieces behind a start and a Host.
func TestAllBodies(t *testing.T) {
	t.Parallel()
	eachRow([]string{"Content-Length: 2\r\n", "Transfer-Encoding: chunked\r\n", "Expect: 100-continue\r\n", "Connection: close\r\n", "\r\n", "1\r\n", "0\r\n", "x"}, 5, func(s string) {
		holdModel(t, first+host+s)
	})
	eachRow([]string{"", "1\r\n", "0\r\n", "x", "\r\n", "\n", "\r", "X: y\r\n"}, 5, func(s string) {
		holdModel(t, "G / HTTP/1.1\r\nHost:\r\nTransfer-Encoding: chunked\r\nExpect: 100-continue\r\n\r\n"+s)
	})
}

// P15.1 to P15.3: all rows of a few requests, whole ones and others.
func TestAllInTurn(t *testing.T) {
	eachRow([]string{"", first + host + end, next, "P /x HTTP/1.1\r\nHost: b\r\nContent-Length: 2\r\n\r\n\r\n", "P / HTTP/1.1\r\nHost: c\r\nTransfer-Encoding: chunked\r\n\r\n1\r\nx\r\n0\r\n\r\n", "\r\n", "\n"}, 4, func(s string) {
		want, wantRest := readModel(s)
		holdRead(t, want, wantRest, s)
		for i := 0; i <= len(s); i += 1 + len(s)/20 {
			holdRead(t, want, wantRest, s[:i], "", s[i:])
		}
	})
}

// P15.1: each byte put in at each place of a few requests, taken out of it, and in its place.
func TestEachByte(t *testing.T) {
	t.Parallel()
	for _, s := range []string{
		"\r\nP /a?b HTTP/1.1\r\nHost: b\r\nContent-Length: 3\r\n\r\na\r\n",
		"G / HTTP/1.1\r\nHost:\r\nTransfer-Encoding: chunked\r\nExpect: 100-continue\r\n\r\n1;a\r\nx\r\n0\r\nX: y\r\n\r\n",
		"G / HTTP/1.0\r\nConnection: keep-alive\r\n\r\n",
	} {
		for i := range len(s) {
			holdModel(t, s[:i])
			holdModel(t, s[:i]+s[i+1:]+next)
			for c := range 256 {
				b := string([]byte{byte(c)})
				holdModel(t, s[:i]+b+s[i:])
				holdModel(t, s[:i]+b+s[i+1:])
			}
		}
	}
}

// P15.1: lines of each length about MaxLine, with each few bytes behind them, without a start and with one.
func TestEachLength(t *testing.T) {
	behind := []string{"", "\r", "\n", "x"}
	for _, begun := range []string{"", end, first, first + host} {
		for n := 253; n < 259; n++ {
			eachRow(behind, 4, func(s string) {
				for _, line := range []string{"X:" + strings.Repeat("x", n-2), startOf(n), strings.Repeat("\r", n)} {
					w := model(begun + line + s)
					holdEnd(t, w, holdPieces(t, w, begun+line+s), line)
					holdEnd(t, w, holdRows(t, w, begun+line, s), line)
					for i := range len(s) {
						holdEnd(t, w, holdPieces(t, w, begun+line[:i], line[i:]+s[:i], s[i:]), line)
					}
				}
			})
		}
	}
}

// P15.1: heads of each length about MaxHead, of fields of some lengths, with each few bytes behind them.
func TestEachHead(t *testing.T) {
	for _, size := range []int{40, 90, 200, 256} {
		begun := first + host
		for api.MaxHead-len(begun) > size+2+100 {
			begun += lineOf(size) + end
		}
		for room := api.MaxHead - len(begun); room > 256; room = api.MaxHead - len(begun) {
			begun += lineOf(60) + end
		}
		room := api.MaxHead - len(begun)
		for n := room - 6; n < min(room+3, api.MaxLine); n++ {
			eachRow([]string{"", "\r\n", "\n", "x", "\r"}, 4, func(s string) {
				all := begun + lineOf(n) + s
				w := model(all)
				holdEnd(t, w, holdPieces(t, w, all), all)
				holdEnd(t, w, holdRows(t, w, begun, lineOf(n), s), all)
			})
		}
	}
}

// P15.1: each number of fields, of each kind of what comes behind.
func TestEachNumberOfFields(t *testing.T) {
	for n := range api.MaxFields + 3 {
		for _, line := range []string{"X:", "X: y", "Host: a", "X:" + strings.Repeat("x", 30), "X:" + strings.Repeat("x", 40)} {
			for _, behind := range []string{"", "\r\n", "\n", "x\r\n", "X: y\r\n\r\n", "Host: b\r\n\r\n", "Content-Length: 1\r\n\r\nx", "Expect: x\r\n\r\n"} {
				holdModel(t, first+strings.Repeat(line+end, n)+behind)
			}
		}
	}
}

func pick(lot *rand.Rand, l ...string) string { return l[lot.IntN(len(l))] }

// requestOf is a request by lot, most of them right.
func requestOf(lot *rand.Rand) string {
	s := strings.Repeat(end, lot.IntN(1+lot.IntN(6)))
	s += pick(lot, "GET", "POST", "OPTIONS", "x", "HEAD") + " " + pick(lot, "/", "/a/../b", "/?x=%20", "http://h/", "*", "/"+strings.Repeat("a", lot.IntN(210))) + " HTTP/" + pick(lot, "1.0", "1.1", "1.1", "1.1", "1.1", "1.9") + end
	l := []string{"Host: a"}
	for lot.IntN(3) > 0 {
		l = append(l, pick(lot, "X: y", "Z:", "Via: a, b", "Connection: keep-alive", "Long: "+strings.Repeat("z", lot.IntN(255)), "a:\tb ", "Via: a, b"))
	}
	if lot.IntN(12) == 0 {
		l = append(l, pick(lot, "Connection: close", "Host: b", "Expect: x", "Content-Length: 2049", "Transfer-Encoding: gzip, chunked", "Content-Length: x", "X y"))
	}
	if lot.IntN(3) == 0 {
		l = append(l, "Expect: 100-continue")
	}
	body := ""
	switch lot.IntN(3) {
	case 0:
		body = dataOf(lot)
		l = append(l, "Content-Length: "+strconv.Itoa(len(body)))
	case 1:
		l = append(l, "Transfer-Encoding: "+pick(lot, "chunked", "Chunked"))
		for lot.IntN(3) > 0 {
			body += string(sizedOf(lot))
		}
		body += "0" + end + pick(lot, "", "", "X: y"+end, "T:"+end+"U: v"+end) + end
	}
	lot.Shuffle(len(l), func(i, k int) { l[i], l[k] = l[k], l[i] })
	for _, x := range l {
		s += x + end
	}
	return s + end + body
}

// dataOf is bytes by lot.
func dataOf(lot *rand.Rand) string {
	b := make([]byte, lot.IntN(1+lot.IntN(60)))
	for i := range b {
		b[i] = byte(lot.IntN(256))
	}
	return string(b)
}

// sizedOf is a chunk by lot.
func sizedOf(lot *rand.Rand) string {
	if data := dataOf(lot); data != "" {
		return sized(data)
	}
	return sized("x")
}

// piecesOf parts bytes by lot, with empty pieces among them.
func piecesOf(lot *rand.Rand, s string) []string {
	var pieces []string
	for most := 1 + lot.IntN(300); s != ""; {
		n := min(len(s), lot.IntN(most+1))
		pieces, s = append(pieces, s[:n]), s[n:]
	}
	return pieces
}

// P15.1 to P15.3: many rows of requests by lot, most of them near to right ones, in pieces by lot.
func TestManyRequests(t *testing.T) {
	lot := rand.New(rand.NewPCG(15, 1))
	seen := map[int]int{}
	for range 20000 {
		s := ""
		for range 1 + lot.IntN(4) {
			s += requestOf(lot)
		}
		for lot.IntN(3) == 0 {
			i := lot.IntN(len(s) + 1)
			k := min(len(s), i+lot.IntN(3))
			s = s[:i] + pick(lot, "", "\r", "\n", end, ":", " ", "\t", "\x00", "\xff", "x", end+end, strings.Repeat("y", 200), next) + s[k:]
		}
		want, wantRest := readModel(s)
		seen[wantRest.phase]++
		seen[wantRest.status]++
		holdRead(t, want, wantRest, s)
		for range 3 {
			holdRead(t, want, wantRest, piecesOf(lot, s)...)
		}
		w := model(s)
		holdEnd(t, w, holdPieces(t, w, piecesOf(lot, s)...), s)
		holdEnd(t, w, holdRows(t, w, piecesOf(lot, s)...), s)
		// A beginning of the bytes tells a beginning of what all of them tell.
		part, _ := read(s[:lot.IntN(len(s)+1)])
		if len(part) > len(want) || !slices.EqualFunc(part, want[:len(part)], same) {
			t.Fatalf("a beginning of %s is %s", short(s), short(part))
		}
	}
	for _, k := range []int{parse.Idle, parse.Head, parse.Body, parse.Bad, 400, 413, 414, 417, 431, 501} {
		if seen[k] == 0 {
			t.Errorf("no row ended by %d", k)
		}
	}
}
