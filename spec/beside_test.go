package spec_test

import (
	"math/rand/v2"
	"strconv"
	"strings"
	"testing"

	"usher/api"
	"usher/parse"
	"usher/spec"
)

// holdBeside holds what Read answers beside a Parser that is given the bytes in one piece, one by one and in two.
func holdBeside(t *testing.T, s string) {
	t.Helper()
	want := byParser(ones(s)...)
	holdRead(t, s, want)
	for _, i := range []int{0, len(s) / 3, len(s) - len(s)/4} {
		if got := byParser(s[:i], s[i:]); !sameTold(got, want) {
			t.Fatalf("a Parser takes of %s, cut at %d, %s, not %s", short(s), i, short(got), short(want))
		}
		holdBeginning(t, s, i, want)
	}
}

// eachRow goes through all rows of so many of these.
func eachRow(kinds []string, n int, do func(string)) {
	var from func(string, int)
	from = func(s string, i int) {
		if i == n {
			do(s)
			return
		}
		for _, k := range kinds {
			from(s+k, i+1)
		}
	}
	from("", 0)
}

// P16.1, P16.3: all rows of a few pieces of heads.
func TestAllHeads(t *testing.T) {
	t.Parallel()
	eachRow([]string{"", "G / HTTP/1.0", "\r", "\n", end, "X:y"}, 6, func(s string) { holdBeside(t, s) })
	eachRow([]string{"", " ", "/", "\r", end, "HTTP/1.1", "\n"}, 5, func(s string) { holdBeside(t, "G"+s+end+host+end+"x") })
}

// P16.1, P16.3: all rows of a few pieces behind a start and a Host.
func TestAllBodies(t *testing.T) {
	t.Parallel()
	eachRow([]string{"Content-Length: 2" + end, coding, waits, closes, end, "1" + end, last, "x"}, 5, func(s string) { holdBeside(t, first+host+s) })
	eachRow([]string{"", "1" + end, last, "x", end, "\n", "\r", "X: y" + end}, 5, func(s string) { holdBeside(t, first+host+coding+end+s) })
}

// P16.1, P16.3: all rows of a few requests, whole ones and others.
func TestAllInTurn(t *testing.T) {
	t.Parallel()
	sent, _ := withLength(end)
	sized, _ := inChunks("X: y"+end, "ab")
	eachRow([]string{"", get, next, sent, sized, end, "\n", "x", elder + keeps + end}, 4, func(s string) { holdBeside(t, s) })
}

// P16.1, P16.3: each byte put in at each place of a few requests, taken out of it, and in its place.
func TestEachByte(t *testing.T) {
	t.Parallel()
	for _, s := range []string{
		end + "P /a?b HTTP/1.1" + end + host + "Content-Length: 3" + end + end + "a" + end,
		"G / HTTP/1.1" + end + "Host:" + end + coding + waits + end + "1;a" + end + "x" + end + last + "X: y" + end + end,
		elder + keeps + end,
	} {
		for i := range len(s) {
			holdBeside(t, s[:i])
			holdBeside(t, s[:i]+s[i+1:]+get)
			for c := range 256 {
				b := string([]byte{byte(c)})
				holdBeside(t, s[:i]+b+s[i:]+get)
				holdBeside(t, s[:i]+b+s[i+1:]+get)
			}
		}
	}
}

// P16.1, P16.3: lines of each length about MaxLine, with each few bytes behind them, without a start and with one.
func TestEachLength(t *testing.T) {
	t.Parallel()
	for _, begun := range []string{"", end, first, first + host} {
		for n := 254; n < 259; n++ {
			for _, line := range []string{lineOf(n), startOf(n), strings.Repeat("\r", n), strings.Repeat("x", n)} {
				eachRow([]string{"", "\r", "\n", "x"}, 4, func(s string) { holdBeside(t, begun+line+s) })
			}
		}
	}
}

// P16.1: heads of each length about MaxHead, with each few bytes behind them.
func TestEachHead(t *testing.T) {
	t.Parallel()
	for _, begun := range []string{first + host, empty4 + first + host, get + end + first + host} {
		for n := api.MaxHead - 4; n < api.MaxHead+5; n++ {
			s, _ := headOf(n, begun)
			eachRow([]string{"", end, "\n", "x", "\r"}, 3, func(behind string) { holdBeside(t, strings.TrimSuffix(s, end)+behind) })
		}
	}
}

func pick(lot *rand.Rand, l ...string) string { return l[lot.IntN(len(l))] }

// bytesOf is bytes by lot.
func bytesOf(lot *rand.Rand) string {
	b := make([]byte, lot.IntN(1+lot.IntN(40)))
	for i := range b {
		b[i] = byte(lot.IntN(256))
	}
	return string(b)
}

// requestOf is a request by lot, most of them right.
func requestOf(lot *rand.Rand) string {
	s := strings.Repeat(end, lot.IntN(1+lot.IntN(6)))
	s += pick(lot, "GET", "POST", "HEAD") + " " + pick(lot, "/", "/a/../b", "/?x=%20", "http://h/", "/"+strings.Repeat("a", lot.IntN(205))) + " HTTP/" + pick(lot, "1.0", "1.1", "1.1", "1.1", "1.1", "1.9") + end
	l := []string{"Host: a", pick(lot, "Connection: keep-alive", "Connection: keep-alive", "Connection: keep-alive", "Connection: close", "X:")}
	for lot.IntN(3) > 0 {
		l = append(l, pick(lot, "X: y", "Z:", "Via: a, b", "Long: "+strings.Repeat("z", lot.IntN(255)), "a:\tb "))
	}
	if lot.IntN(12) == 0 {
		l = append(l, pick(lot, "Host: b", "Expect: x", "Content-Length: 2049", "Transfer-Encoding: gzip, chunked", "Content-Length: x", "X y"))
	}
	if lot.IntN(4) == 0 {
		l = append(l, "Expect: 100-continue")
	}
	body := ""
	switch lot.IntN(3) {
	case 0:
		body = bytesOf(lot)
		l = append(l, "Content-Length: "+strconv.Itoa(len(body)))
	case 1:
		l = append(l, "Transfer-Encoding: "+pick(lot, "chunked", "Chunked"))
		for lot.IntN(3) > 0 {
			body += sized("x" + bytesOf(lot))
		}
		body += last + pick(lot, "", "", "X: y"+end, "T:"+end+"U: v"+end) + end
	}
	lot.Shuffle(len(l), func(i, k int) { l[i], l[k] = l[k], l[i] })
	return s + strings.Join(l, end) + end + end + body
}

// piecesOf parts bytes by lot, with empty pieces among them.
func piecesOf(lot *rand.Rand, s string) []string {
	var pieces []string
	for most := 1 + lot.IntN(300); s != ""; {
		n := min(len(s), lot.IntN(most+1))
		pieces, s = append(pieces, s[:n]), s[n:]
	}
	return pieces
}

// P16.1, P16.3: many rows of requests by lot, most of them near to right ones, beside a Parser that is given them in pieces by lot.
func TestManyRequests(t *testing.T) {
	t.Parallel()
	lot := rand.New(rand.NewPCG(16, 1))
	seen := map[int]int{}
	most := 0
	for range 20000 {
		s := ""
		for range 1 + lot.IntN(5) {
			s += requestOf(lot)
		}
		for lot.IntN(3) == 0 {
			i := lot.IntN(len(s) + 1)
			k := min(len(s), i+lot.IntN(3))
			s = s[:i] + pick(lot, "", "\r", "\n", end, ":", " ", "\x00", "\xff", "x", end+end, strings.Repeat("y", 200), get) + s[k:]
		}
		s = s[:len(s)-min(len(s), lot.IntN(1+lot.IntN(30)))]
		want := byParser(piecesOf(lot, s)...)
		holdRead(t, s, want)
		seen[want.rest.Phase]++
		seen[want.rest.Status]++
		most = max(most, len(want.requests))
		for range 3 {
			holdBeginning(t, s, lot.IntN(len(s)+1), want)
		}
	}
	for _, k := range []int{parse.Idle, parse.Head, parse.Body, parse.Bad, 400, 413, 414, 417, 431, 501} {
		if seen[k] == 0 {
			t.Errorf("no row ended by %d", k)
		}
	}
	if most < 5 {
		t.Errorf("no row had more than %d requests", most)
	}
}

// P16.3, P0.3: bytes that stand behind others change nothing of what was whole ahead of them.
func TestMoreBehind(t *testing.T) {
	t.Parallel()
	for _, a := range streams() {
		one := read(a)
		for _, b := range streams() {
			both := read(a + b)
			n := len(one.requests)
			if len(both.requests) < n || !sameTold(told{requests: both.requests[:n]}, told{requests: one.requests}) || both.rest.Used < one.rest.Used {
				t.Errorf("%s is %s, with %s behind it %s", short(a), short(one), short(b), short(both))
			}
			if one.rest.Phase == parse.Bad && !sameTold(both, one) {
				t.Errorf("%s is %s, with %s behind it %s", short(a), short(one), short(b), short(both))
			}
			if one.rest == (spec.Rest{Used: len(a)}) && !closed(one) {
				if two := read(b); len(both.requests) != n+len(two.requests) || both.rest != (spec.Rest{Used: len(a) + two.rest.Used, Phase: two.rest.Phase, Status: two.rest.Status}) {
					t.Errorf("%s and %s are %s", short(a), short(b), short(both))
				}
			}
		}
	}
}

// closed tells whether the last request is one with Close.
func closed(w told) bool { return len(w.requests) > 0 && w.requests[len(w.requests)-1].Close }
