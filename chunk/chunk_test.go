package chunk_test

import (
	"bytes"
	"fmt"
	"reflect"
	"slices"
	"strconv"
	"strings"
	"sync"
	"testing"
	"unsafe"

	"usher/api"
	"usher/chunk"
)

const (
	end  = "\r\n"
	last = "0\r\n" // the size line that ends the data
)

// The face: what the document lists stands so; Encode is variadic.
var (
	_ func() *chunk.Reader                         = chunk.New
	_ func(*chunk.Reader, []byte) (int, bool, int) = (*chunk.Reader).Feed
	_ func(*chunk.Reader) []byte                   = (*chunk.Reader).Body
	_ func(*chunk.Reader) []api.Field              = (*chunk.Reader).Trailers
	_ func(...[]byte) []byte                       = chunk.Encode
)

// told is what a Reader tells: what Feed answered of all bytes together, and what came.
type told struct {
	n        int
	whole    bool
	status   int
	body     string
	trailers []api.Field
}

// over tells whether nothing more is taken.
func (w told) over() bool { return w.whole || w.status != 0 }

// short is a text that can be shown.
func short(v any) string { return fmt.Sprintf("%.300q", fmt.Sprintf("%+v", v)) }

// fields are names and values, by turns.
func fields(l ...string) []api.Field {
	var all []api.Field
	for i := 0; i < len(l); i += 2 {
		all = append(all, api.Field{Name: l[i], Value: l[i+1]})
	}
	return all
}

// sized is one chunk of a text.
func sized(s string) string { return strconv.FormatInt(int64(len(s)), 16) + end + s + end }

// others are bytes of each kind, to be given to a Reader that is whole or refused.
func others() []string {
	return []string{"", "\n", "\r", end, "x", "0", last, last + end, sized("abc") + last + end, "X: y" + end, "\x00", strings.Repeat("x", 1000), "", end + end}
}

// holdCame holds what came by now, behind what was fed.
func holdCame(t *testing.T, r *chunk.Reader, fed any, body string, trailers []api.Field) {
	t.Helper()
	if got := r.Body(); string(got) != body {
		t.Errorf("behind %s the body is %s, not %s", short(fed), short(string(got)), short(body))
	}
	if got := r.Trailers(); !slices.Equal(got, trailers) {
		t.Errorf("behind %s the trailers are %s, not %s", short(fed), short(got), short(trailers))
	}
}

// holdPieces holds what is told of bytes that come in pieces.
func holdPieces(t *testing.T, w told, pieces ...string) *chunk.Reader {
	t.Helper()
	r, at := chunk.New(), 0
	for i, p := range pieces {
		n, whole, status := r.Feed([]byte(p))
		take := min(len(p), w.n-at)
		at += take
		wantWhole, want := false, 0
		if at == w.n {
			wantWhole, want = w.whole, w.status
		}
		if n != take || whole != wantWhole || status != want {
			t.Fatalf("piece %d of %s: %d, %v, %d, not %d, %v, %d", i, short(pieces), n, whole, status, take, wantWhole, want)
		}
	}
	holdCame(t, r, pieces, w.body, w.trailers)
	return r
}

// holdOver holds that a Reader that is whole or refused takes nothing, tells that again, and what came stays.
func holdOver(t *testing.T, w told, r *chunk.Reader, fed string) {
	t.Helper()
	for _, s := range others() {
		if n, whole, status := r.Feed([]byte(s)); n != 0 || whole != w.whole || status != w.status {
			t.Errorf("%s behind %s: %d, %v, %d, not 0, %v, %d", short(s), short(fed), n, whole, status, w.whole, w.status)
		}
		holdCame(t, r, []string{fed, s}, w.body, w.trailers)
	}
}

// hold holds what is told of bytes in one piece, one by one, cut at each place, with empty pieces between, and behind the end.
func hold(t *testing.T, s string, w told) {
	t.Helper()
	r := holdPieces(t, w, s)
	if w.over() {
		holdOver(t, w, r, s)
	}
	ones := []string{""}
	for i := range len(s) {
		ones = append(ones, s[i:i+1], "")
	}
	r = holdPieces(t, w, ones...)
	if w.over() {
		holdOver(t, w, r, s)
	}
	for i := range len(s) + 1 {
		holdPieces(t, w, s[:i], s[i:])
		holdPieces(t, w, "", s[:i], "", "", s[i:], "")
	}
}

// holdEnd holds what is told of bytes that end there, with others behind and without.
func holdEnd(t *testing.T, s string, w told) {
	t.Helper()
	hold(t, s, w)
	for _, behind := range []string{"\n", end, "0", sized("x") + last + end} {
		holdPieces(t, w, s+behind)
		holdPieces(t, w, s, behind)
		holdPieces(t, w, s[:len(s)-1], s[len(s)-1:]+behind)
	}
}

// holdWhole holds a body that is whole behind these bytes.
func holdWhole(t *testing.T, s, body string, trailers ...api.Field) {
	t.Helper()
	holdEnd(t, s, told{n: len(s), whole: true, body: body, trailers: trailers})
}

// holdStatus holds that the last of these bytes is refused, and none ahead of it.
func holdStatus(t *testing.T, status int, s, body string, trailers ...api.Field) {
	t.Helper()
	holdEnd(t, s, told{n: len(s), status: status, body: body, trailers: trailers})
	holdPieces(t, told{n: len(s) - 1, body: body, trailers: trailers}, s[:len(s)-1])
}

// holdMore holds that these bytes are taken and that more must come.
func holdMore(t *testing.T, s, body string, trailers ...api.Field) {
	t.Helper()
	hold(t, s, told{n: len(s), body: body, trailers: trailers})
}

// The document's example.
func TestExample(t *testing.T) {
	holdWhole(t, "3;a=b\r\nabc\r\n0\r\n\r\n", "abc")
}

// P14.1, P14.2: a new Reader has nothing, and is neither whole nor refused; two are not one.
func TestNew(t *testing.T) {
	r, other := chunk.New(), chunk.New()
	if r == nil || r == other {
		t.Fatalf("New is %p, and %p", r, other)
	}
	for range 2 {
		holdCame(t, r, "a new Reader", "", nil)
		for _, p := range [][]byte{nil, {}} {
			if n, whole, status := r.Feed(p); n != 0 || whole || status != 0 {
				t.Errorf("Feed of nothing: %d, %v, %d", n, whole, status)
			}
		}
	}
	hold(t, "", told{})
}

// text is so many bytes, of which none is as its neighbours.
func text(n int) string {
	b := make([]byte, n)
	for i := range b {
		b[i] = byte(i * 7)
	}
	return string(b)
}

// P14.1: a size has 1 to 6 hexadecimal digits, of either size, with zeros ahead or without.
func TestSizes(t *testing.T) {
	for _, c := range []struct {
		size string
		n    int
	}{
		{"1", 1}, {"9", 9}, {"a", 10}, {"A", 10}, {"f", 15}, {"F", 15}, {"b", 11}, {"C", 12}, {"d", 13}, {"E", 14},
		{"10", 16}, {"1f", 31}, {"1F", 31}, {"aB", 0xab}, {"Ab", 0xab}, {"7ff", 0x7ff}, {"7fF", 0x7ff},
		{"01", 1}, {"001", 1}, {"0001", 1}, {"00001", 1}, {"000001", 1}, {"00000a", 10}, {"00000F", 15}, {"0003", 3}, {"000040", 64}, {"0007fF", 0x7ff},
	} {
		data := text(c.n)
		if c.n < 99 {
			holdWhole(t, c.size+end+data+end+last+end, data)
			holdWhole(t, sized("ab")+c.size+end+data+end+last+end, "ab"+data)
		} else {
			w := told{n: len(c.size) + 2 + c.n + 2 + 5, whole: true, body: data}
			holdPieces(t, w, c.size+end+data+end+last+end)
		}
		holdMore(t, c.size, "")
		holdMore(t, c.size+"\r", "")
		holdMore(t, c.size+end, "")
	}
}

// P14.1: a size of 0, of 1 to 6 digits, ends the data.
func TestLastSizes(t *testing.T) {
	for n := 1; n <= 6; n++ {
		zeros := strings.Repeat("0", n)
		holdWhole(t, zeros+end+end, "")
		holdWhole(t, sized("abc")+zeros+end+end, "abc")
		holdWhole(t, sized("abc")+zeros+end+"X: y"+end+end, "abc", fields("X", "y")...)
		holdWhole(t, zeros+";a=\"b\" "+end+end, "")
	}
	for n := 7; n <= 14; n++ {
		holdStatus(t, 400, strings.Repeat("0", n)+end, "")
		holdStatus(t, 400, strings.Repeat("0", n-1)+"1"+end, "")
	}
}

// P14.1: a size line that is none is 400 at its 0a, at the first place and behind others.
func TestWrongSizes(t *testing.T) {
	for _, s := range []string{
		"", " ", "\t", "0000000", "0000001", "1000000", "fffffff", "0000003", "1234567", "00000000000", "000000000000", "100000000000", "ffffffffffff", "0000000000001", "10000000000000003", strings.Repeat("0", 64),
		"+3", "-3", "+0", "-0", "3+", "3-", "--3", "0x3", "0X3", "x3", "x", "3x", "3h", "g", "G", "3g", "g3", "3G", "/", ":", "@", "`", "3/", "3:", "3@", "3`", "3.", "3.0", "3,", "3,3", "3_0", "3'", "#3", "$3", "\"3\"", "3h;a=b",
		" 3", "\t3", "  3", " 0", " 3 ", "3 3", "3 0", "0 0", "0 3", "3\t3", "3 a", "0 x", "3 a=b",
		"\x003", "3\x00", "\x00", "3\v", "3\f", "\v3", "3\x7f", "3\x80", "3\xff", "\xff", "\xb3", "\u0663", "3\u00a0", "\uff13",
		"\r", "\r\r", "3\r", "0\r", "\r3", "3\r\r", "3\r;a", "3\r3", "0\r0", "3 \r", "3 \r ",
	} {
		holdStatus(t, 400, s+end, "")
		holdStatus(t, 400, sized("abc")+s+end, "abc")
	}
}

// P14.1: each byte as a size, and behind, ahead of and within one.
func TestSizesOfEachByte(t *testing.T) {
	for i := range 256 {
		c := string([]byte{byte(i)})
		n, err := strconv.ParseUint(c, 16, 8)
		blank := c == " " || c == "\t"
		if c == "\n" {
			holdStatus(t, 400, c, "")
			holdStatus(t, 400, "1"+c, "")
			continue
		}
		switch {
		case err != nil:
			holdStatus(t, 400, c+end, "")
			holdStatus(t, 400, c+"1"+end, "")
			if c == ";" {
				holdMore(t, "1"+c+"1"+end, "")
			} else {
				holdStatus(t, 400, "1"+c+"1"+end, "")
			}
		case n == 0:
			holdWhole(t, c+end+end, "")
		default:
			holdWhole(t, c+end+text(int(n))+end+last+end, text(int(n)))
			holdMore(t, c+"1"+end, "")
			holdMore(t, "1"+c+"1"+end, "")
		}
		switch {
		case blank:
			holdWhole(t, "1"+c+end+"x"+end+last+end, "x")
		case err != nil:
			holdStatus(t, 400, "1"+c+end, "")
			holdStatus(t, 400, "0"+c+end, "")
		}
	}
}

// P14.1: behind the digits chapter 9's Params may stand.
func TestParams(t *testing.T) {
	for _, s := range []string{
		"", " ", "\t", " \t ", ";a", ";a=b", "; a", " ;a", "\t;\ta=b\t", ";a=b;c=d", "; a=1 ;b ;c=\"d\"", ";a=\"\"", ";a=\"b c\"", ";a=\";\"", ";a=\"\\\"\"", ";a=\"\\\\\";b", ";a=\"\t\x80\xff\"", ";!#$%&'*+-.^_`|~=1", ";0", ";0=0", ";a;a;a", ";a=\"0\"", ";a=\"b=\\c\" ",
		strings.Repeat(";a", 16), strings.Repeat(";a", 16) + " ", strings.Repeat(";a=b", 14), strings.Repeat(" ;a", 16),
	} {
		for _, size := range []string{"3", "03", "000003"} {
			holdWhole(t, size+s+end+"abc"+end+last+end, "abc")
		}
		holdWhole(t, "0"+s+end+end, "")
		holdWhole(t, sized("x")+"2"+s+end+"yz"+end+"000"+s+end+end, "xyz")
	}
	for _, s := range []string{
		";", ";;", ";;a", ";a;", "; ", ";=", ";=b", ";a=", ";a =b", ";a= b", ";a b", ";a=b c", ";a=b=c", ";a,b", ",a", "g", "=", "=b", "g=b", ";a=\"", ";a=\"b", ";a=\"b\\\"", ";a=\"b\"c", ";a=\"b\" c", ";\"a\"", ";\"a\"=b", ";a='b c'", ";a=\"\x00\"", ";a=\"\x7f\"", ";a=\"\r\"", ";a=b\r", ";a\r=b", ";\xff", ";a=\xff", ";a/b", ";a=b,c", ";a:b", ";a=(b)",
		strings.Repeat(";a", 17), strings.Repeat(";a", 17) + " ", strings.Repeat(";a", 16) + ";",
	} {
		holdStatus(t, 400, "3"+s+end, "")
		holdStatus(t, 400, "0"+s+end, "")
		holdStatus(t, 400, sized("abc")+"3"+s+end, "abc")
	}
}

// P14.1: a size line may have 64 bytes without its end; it is 400 at the byte by which it has more, an 0d that comes last not being counted.
func TestLongSizeLines(t *testing.T) {
	for _, begin := range []string{"3", "3;a=", "000003;a=b;c=", "3;a=\"b\";d="} {
		fill := "x"
		if begin == "3" {
			fill = " "
		}
		line := func(n int) string { return begin + strings.Repeat(fill, n-len(begin)) }
		for _, c := range []struct{ ahead, body string }{{"", ""}, {sized("ab"), "ab"}} {
			for _, n := range []int{62, 63, 64} {
				holdMore(t, c.ahead+line(n), c.body)
				holdMore(t, c.ahead+line(n)+"\r", c.body)
				holdWhole(t, c.ahead+line(n)+end+"abc"+end+last+end, c.body+"abc")
				holdStatus(t, 400, c.ahead+line(n)+"\n", c.body)
			}
			holdStatus(t, 400, c.ahead+line(65), c.body)
			holdStatus(t, 400, c.ahead+line(64)+"\x00", c.body)
			holdStatus(t, 400, c.ahead+line(64)+"\r\r", c.body)
			holdStatus(t, 400, c.ahead+line(64)+"\r ", c.body)
			holdStatus(t, 400, c.ahead+line(64)+"\rx", c.body)
			holdStatus(t, 400, c.ahead+line(63)+"\rx", c.body)
			holdStatus(t, 400, c.ahead+line(63)+"\r\r\n", c.body)
			holdStatus(t, 400, c.ahead+line(63)+"\r\r\r", c.body)
			holdStatus(t, 400, c.ahead+line(63)+"\r\rx", c.body)
			holdStatus(t, 400, c.ahead+line(62)+"\r\r\n", c.body)
			holdStatus(t, 400, c.ahead+line(62)+"\rx\r\n", c.body)
			holdStatus(t, 400, c.ahead+line(62)+"\rxx", c.body)
			holdStatus(t, 400, c.ahead+line(62)+"\r\r\rx", c.body)
		}
	}
	for _, s := range []string{"x", "0", "f", " ", ";", "\x00", "\xff", "3;a="} {
		long := strings.Repeat(s, 65)[:65]
		holdStatus(t, 400, long, "")
		holdStatus(t, 400, sized("abc")+long, "abc")
		holdMore(t, long[:64], "")
		holdStatus(t, 400, "3"+strings.Repeat(" ", 30)+"\r"+strings.Repeat(" ", 33), "")
	}
	holdMore(t, strings.Repeat("\r", 65), "")
	holdStatus(t, 400, strings.Repeat("\r", 65)+"\n", "")
	holdStatus(t, 400, strings.Repeat("\r", 66), "")
	holdWhole(t, "0"+strings.Repeat(" ", 63)+end+end, "")
	holdWhole(t, "0;a="+strings.Repeat("x", 60)+end+end, "")
	holdStatus(t, 400, "0"+strings.Repeat(" ", 64), "")
}

// P14.1: an 0a without an 0d ahead of it is 400, in a size line, behind the data, in a trailer, and at the empty line.
func TestNewlines(t *testing.T) {
	for _, c := range []struct{ s, body string }{
		{"\n", ""}, {"3\n", ""}, {"0\n", ""}, {"3;a=b\n", ""}, {"x\n", ""}, {"3\r \n", ""}, {"3\rx\n", ""}, {"000003\n", ""}, {"fffff\n", ""},
		{sized("abc") + "\n", "abc"}, {sized("abc") + "0\n", "abc"}, {sized("a\r") + "\n", "a\r"},
		{"3\r\nabc\n", "abc"}, {"3\r\nab\r\n", "ab\r"}, {"1\r\n\r\n", "\r"},
		{last + "\n", ""}, {sized("abc") + last + "\n", "abc"}, {last + "x\n", ""}, {last + "X: y\n", ""}, {last + "X:\n", ""}, {last + "X: y\r \n", ""}, {last + " \n", ""},
	} {
		holdStatus(t, 400, c.s, c.body)
	}
	for _, s := range []string{"\n", "x\n", "Z: z\n", "Z: z\rz\n", "\r \n"} {
		holdStatus(t, 400, last+"X: y"+end+s, "", fields("X", "y")...)
	}
}

// P14.1: behind the data an 0d and an 0a must come, and any other byte is 400 at its place.
func TestBehindTheData(t *testing.T) {
	for i := range 256 {
		c := string([]byte{byte(i)})
		if c != "\r" {
			holdStatus(t, 400, "3\r\nabc"+c, "abc")
			holdStatus(t, 400, sized("x")+"2\r\ny\r"+c, "xy\r")
		}
		if c != "\n" {
			holdStatus(t, 400, "3\r\nabc\r"+c, "abc")
			holdStatus(t, 400, sized("x")+"1\r\n\n\r"+c, "x\n")
		}
	}
	holdMore(t, "3\r\nabc", "abc")
	holdMore(t, "3\r\nabc\r", "abc")
	holdMore(t, "3\r\nabc\r\n", "abc")
	holdMore(t, "3\r\nab", "ab")
	holdStatus(t, 400, "3\r\nabcd", "abc")
	holdStatus(t, 400, "3\r\nabc0", "abc")
	holdStatus(t, 400, "3\r\nabc\r\r", "abc")
	holdStatus(t, 400, "3\r\nab\r\n", "ab\r")
	holdStatus(t, 400, "3\r\na\r\n0", "a\r\n")
}

// P14.1, P14.2: data is any bytes, also those that end lines.
func TestData(t *testing.T) {
	for i := range 256 {
		c := string([]byte{byte(i)})
		holdWhole(t, "1\r\n"+c+end+last+end, c)
		holdWhole(t, "3\r\n"+c+c+c+end+"1\r\n"+c+end+last+end, c+c+c+c)
	}
	for _, s := range []string{end, "\n", "\r", "\r\r\n\n", end + end, last + end, sized("abc") + last + end, "a\r\nb\nc\rd", strings.Repeat(end, 50), "X: y" + end, text(256), strings.Repeat("0", 99), strings.Repeat("x", 300)} {
		holdWhole(t, sized(s)+last+end, s)
		holdWhole(t, sized(s)+sized(s)+last+end, s+s)
		ones := ""
		for i := range len(s) {
			ones += sized(s[i : i+1])
		}
		if len(s) < 99 {
			holdWhole(t, ones+last+end, s)
		}
		holdMore(t, ones, s)
	}
}

// holdInPieces is for long texts: in one piece, one by one, in pieces of some lengths, and cut at some places.
func holdInPieces(t *testing.T, s string, w told) {
	t.Helper()
	for _, n := range []int{len(s), 1, 2, 3, 5, 64, 255, 1000} {
		var pieces []string
		for b := range slices.Chunk([]byte(s), n) {
			pieces = append(pieces, "", string(b))
		}
		r := holdPieces(t, w, pieces...)
		if w.over() {
			holdOver(t, w, r, s)
		}
	}
	for i := 0; i <= len(s); i += 1 + len(s)/500 {
		holdPieces(t, w, s[:i], "", s[i:])
	}
}

// P14.1: a body may have MaxBody bytes; 413 at the 0a of the size line by which it would have more, whatever was to come.
func TestMaxBody(t *testing.T) {
	if api.MaxBody != 2048 {
		t.Errorf("MaxBody is %d", api.MaxBody)
	}
	all := text(api.MaxBody)
	ones := ""
	for i := range len(all) {
		ones += sized(all[i : i+1])
	}
	for _, s := range []string{sized(all), sized(all[:1]) + sized(all[1:]), sized(all[:2047]) + sized(all[2047:]), sized(all[:1000]) + sized(all[1000:1024]) + sized(all[1024:]), ones} {
		holdInPieces(t, s, told{n: len(s), body: all})
		whole := s + last + end
		holdInPieces(t, whole+"x", told{n: len(whole), whole: true, body: all})
		for _, size := range []string{"1", "000001", "a", "800", "ffffff", "1;a=b", "1 "} {
			over := s + size + end
			holdInPieces(t, over+"x\r\n0", told{n: len(over), status: 413, body: all})
		}
		whole = s + "000000;x" + end + "X: y" + end + end
		holdInPieces(t, whole+end, told{n: len(whole), whole: true, body: all, trailers: fields("X", "y")})
	}
	for _, size := range []string{"801", "802", "8Ff", "900", "1000", "0801", "000801", "fffff", "FFFFFF", "100000", "800000", "801;a=b", "801 ", "ffffff;a=\"b\""} {
		holdStatus(t, 413, size+end, "")
		holdStatus(t, 413, sized("abc")+size+end, "abc")
	}
	for _, size := range []string{"800", "0800", "000800", "7ff", "7FF"} {
		holdMore(t, size+end, "")
	}
	holdMore(t, sized("abc")+"7fd"+end, "abc")
	holdStatus(t, 413, sized("abc")+"7fe"+end, "abc")
	holdStatus(t, 413, sized("abc")+"7ff"+end, "abc")
	holdStatus(t, 413, sized("abc")+"800"+end, "abc")
	holdStatus(t, 413, sized("a")+sized("b")+"7ff"+end, "ab")
	holdMore(t, sized("a")+sized("b")+"7fe"+end, "ab")
}

// filled is a trailer of so many bytes, without its end.
func filled(n int) string { return "X: " + strings.Repeat("x", n-3) }

// laid are such trailers as fields.
func laid(sizes ...int) []api.Field {
	var all []api.Field
	for _, n := range sizes {
		all = append(all, api.Field{Name: "X", Value: strings.Repeat("x", n-3)})
	}
	return all
}

// lines are such trailers with their ends.
func lines(sizes ...int) string {
	s := ""
	for _, n := range sizes {
		s += filled(n) + end
	}
	return s
}

// P14.1, P14.2: trailers are fields, in order, each told from the 0a on that ends it.
func TestTrailers(t *testing.T) {
	list := []struct{ line, name, value string }{
		{"hOST:  a\t", "hOST", "a"}, {"X:", "X", ""}, {"x: ", "x", ""}, {"Accept:\ta, b ; c", "Accept", "a, b ; c"}, {"!#$%&'*+-.^_`|~: \x80\xff~ !", "!#$%&'*+-.^_`|~", "\x80\xff~ !"}, {"X::", "X", ":"}, {"Content-Length: 7", "Content-Length", "7"}, {"Transfer-Encoding: chunked", "Transfer-Encoding", "chunked"},
	}
	s, want := last, []api.Field(nil)
	for _, c := range list {
		holdMore(t, s+c.line, "", want...)
		holdMore(t, s+c.line+"\r", "", want...)
		s += c.line + end
		want = append(slices.Clip(want), api.Field{Name: c.name, Value: c.value})
		holdMore(t, s, "", want...)
		holdMore(t, s+"\r", "", want...)
		holdWhole(t, s+end, "", want...)
		holdMore(t, sized("abc")+s, "abc", want...)
		holdWhole(t, sized("abc")+s+end, "abc", want...)
		holdWhole(t, "0"+end+c.line+end+end, "", api.Field{Name: c.name, Value: c.value})
	}
	holdWhole(t, last+"3: abc"+end+end, "", fields("3", "abc")...)
	holdWhole(t, last+"a:b"+end+"a:b"+end+"A:c"+end+end, "", fields("a", "b", "a", "b", "A", "c")...)
}

// P14.1: a trailer that is no field is 400 at its 0a.
func TestWrongTrailers(t *testing.T) {
	for _, s := range []string{
		"x", "X", "Host a", " X: y", "\tX: y", " ", "\t", " \t ", ":", ": a", " : a", "X : a", "X\t: a", "X y: a", "X\x00: a", "X(: a", "H\u00f6: a", "\xff: a", "X,: a", "a/b: c", "\"a\": b", "a=b: c", ";a=b", "0", "3;a=b",
		"X: \x00", "X: a\x00", "X: a\rb", "X: a\r", "X:\r", "X\r:", "\rX: y", "X: \x7f", "X: a\x1fb", "X: a\vb", "\r", "\r\r", "\x00", "GET / HTTP/1.1",
	} {
		holdStatus(t, 400, last+s+end, "")
		holdStatus(t, 400, sized("abc")+last+s+end, "abc")
		holdStatus(t, 400, last+"Y: z"+end+s+end, "", fields("Y", "z")...)
	}
	for i := range 256 {
		c := string([]byte{byte(i)})
		if c == "\n" {
			continue
		}
		token := i >= '0' && i <= '9' || i >= 'A' && i <= 'Z' || i >= 'a' && i <= 'z' || strings.Contains("!#$%&'*+-.^_`|~", c) && i < 128
		if token {
			holdWhole(t, last+c+": y"+end+end, "", fields(c, "y")...)
		} else {
			holdStatus(t, 400, last+c+": y"+end, "")
		}
		if value := i == 9 || i >= 0x20 && i != 0x7f; value {
			holdWhole(t, last+"X:a"+c+"b"+end+end, "", fields("X", "a"+c+"b")...)
		} else {
			holdStatus(t, 400, last+"X:a"+c+"b"+end, "")
		}
	}
}

// P14.1: a trailer may have MaxLine bytes; it is 431 at the byte by which it has more, an 0d that comes last not being counted.
func TestLongTrailers(t *testing.T) {
	if api.MaxLine != 256 {
		t.Errorf("MaxLine is %d", api.MaxLine)
	}
	for _, ahead := range [][]int{nil, {4}, {100, 100}} {
		begun, came := last+lines(ahead...), laid(ahead...)
		for _, n := range []int{254, 255, 256} {
			holdMore(t, begun+filled(n), "", came...)
			holdMore(t, begun+filled(n)+"\r", "", came...)
			holdWhole(t, begun+filled(n)+end+end, "", append(came, laid(n)...)...)
			holdStatus(t, 400, begun+filled(n)+"\n", "", came...)
		}
		holdStatus(t, 431, begun+filled(257), "", came...)
		holdStatus(t, 431, begun+filled(256)+"\x00", "", came...)
		holdStatus(t, 431, begun+filled(256)+"\r\r", "", came...)
		holdStatus(t, 431, begun+filled(256)+"\rx", "", came...)
		holdStatus(t, 431, begun+filled(255)+"\rx", "", came...)
		holdStatus(t, 400, begun+filled(255)+"\r\r\n", "", came...)
		holdStatus(t, 431, begun+filled(255)+"\r\r\r", "", came...)
		holdStatus(t, 400, begun+filled(254)+"\r\r\n", "", came...)
		holdStatus(t, 400, begun+filled(254)+"\rx\r\n", "", came...)
		holdStatus(t, 431, begun+strings.Repeat("x", 257), "", came...)
		holdStatus(t, 431, begun+strings.Repeat(" ", 257), "", came...)
		holdStatus(t, 431, begun+strings.Repeat(":", 257), "", came...)
		holdStatus(t, 400, begun+strings.Repeat("x", 256)+end, "", came...)
		holdMore(t, begun+strings.Repeat("\r", 257), "", came...)
		holdStatus(t, 400, begun+strings.Repeat("\r", 257)+"\n", "", came...)
		holdStatus(t, 431, begun+strings.Repeat("\r", 258), "", came...)
	}
	holdStatus(t, 431, sized("abc")+last+filled(257), "abc")
	holdWhole(t, last+"X: "+strings.Repeat(" ", 253)+end+end, "", fields("X", "")...)
	holdWhole(t, last+strings.Repeat("X", 255)+":"+end+end, "", fields(strings.Repeat("X", 255), "")...)
}

// P14.1: all trailers may have 512 bytes with their ends, the empty line counting nothing; it is 431 at the byte by which they have more: within a line, or at the 0a of an end.
func TestManyTrailerBytes(t *testing.T) {
	for _, ahead := range [][]int{{256}, {254}, {255, 4}, {100, 100, 100}, {250, 3}, {60, 60, 60, 60, 60, 60, 60}} {
		begun, came := last+lines(ahead...), laid(ahead...)
		room := 512 - (len(begun) - len(last)) // of the next line
		if room > 256 {
			begun, came, room = begun+filled(50)+end, append(came, laid(50)...), room-52
		}
		came = slices.Clip(came)
		// With its end it has just its room.
		just, all := begun+filled(room-2)+end, append(came, laid(room-2)...)
		all = slices.Clip(all)
		holdMore(t, begun+filled(room-2)+"\r", "", came...)
		holdMore(t, just, "", all...)
		holdMore(t, just+"\r", "", all...)
		holdWhole(t, just+end, "", all...)
		holdStatus(t, 400, just+"\n", "", all...)
		holdStatus(t, 431, just+"x", "", all...)
		holdStatus(t, 431, just+":", "", all...)
		holdStatus(t, 431, just+"\x00", "", all...)
		holdStatus(t, 431, just+"\rx", "", all...)
		holdStatus(t, 431, just+"\r\r", "", all...)
		holdStatus(t, 431, just+"\r ", "", all...)
		// Its end is one byte, or two, too many.
		for _, n := range []int{room - 1, room} {
			holdMore(t, begun+filled(n), "", came...)
			holdMore(t, begun+filled(n)+"\r", "", came...)
			holdStatus(t, 431, begun+filled(n)+end, "", came...)
			holdStatus(t, 400, begun+filled(n)+"\n", "", came...)
		}
		// One byte within the line is too many.
		holdStatus(t, 431, begun+filled(room+1), "", came...)
		holdStatus(t, 431, begun+filled(room)+"\x00", "", came...)
		holdStatus(t, 431, begun+filled(room)+"\r\r", "", came...)
		holdStatus(t, 431, begun+filled(room)+"\rx", "", came...)
		holdStatus(t, 431, begun+filled(room-1)+"\rx", "", came...)
		holdStatus(t, 400, begun+filled(room-1)+"\r\r\n", "", came...)
		holdStatus(t, 431, begun+filled(room-1)+"\r\r\r", "", came...)
		// Some bytes of room are left.
		for _, n := range []int{1, 2, 3} {
			less, came := begun+filled(room-2-n)+end, append(came, laid(room-2-n)...)
			holdWhole(t, less+end, "", came...)
			holdMore(t, less+strings.Repeat("x", n), "", came...)
			holdMore(t, less+strings.Repeat("x", n)+"\r", "", came...)
			holdStatus(t, 431, less+strings.Repeat("x", n+1), "", came...)
			holdStatus(t, 400, less+strings.Repeat("x", n)+end, "", came...)
			holdStatus(t, 400, less+strings.Repeat("x", n)+"\n", "", came...)
			if n > 1 {
				holdStatus(t, 431, less+strings.Repeat("x", n-1)+":"+end, "", came...)
			}
		}
	}
	// The sizes and the data count nothing.
	holdWhole(t, sized(text(600))+"0"+strings.Repeat(" ", 63)+end+lines(254, 254)+end, text(600), laid(254, 254)...)
}

// P14.1: eight trailers may come; it is 431 at the 0a of the ninth.
func TestEightTrailers(t *testing.T) {
	for _, size := range []int{3, 4, 30} {
		s, came := last, []api.Field(nil)
		for i := range 8 {
			s, came = s+filled(size)+end, append(came, laid(size)...)
			holdMore(t, s, "", came...)
			holdWhole(t, s+end, "", came...)
			if i == 7 {
				came = slices.Clip(came)
			}
		}
		holdStatus(t, 431, s+"X: y"+end, "", came...)
		holdStatus(t, 431, s+"X:"+end, "", came...)
		holdStatus(t, 431, s+"Host: a"+end, "", came...)
		holdMore(t, s+"X: y", "", came...)
		holdMore(t, s+"X: y\r", "", came...)
		holdMore(t, s+"X: y\r ", "", came...)
		holdStatus(t, 400, s+"\n", "", came...)
		holdStatus(t, 431, sized("abc")+s+"X:"+end, "abc", came...)
	}
}

// P14.1: of each two statuses that apply at one byte, the first: 400, then 431, then 413.
func TestOrder(t *testing.T) {
	eight, came := last+lines(4, 4, 4, 4, 4, 4, 4, 4), laid(4, 4, 4, 4, 4, 4, 4, 4)
	// No field, and the ninth; an 0a alone, and the ninth.
	for _, s := range []string{"x" + end, " X: y" + end, "X: \x00" + end, ":" + end, "\r" + end, "X: y\n", "x\n"} {
		holdStatus(t, 400, eight+s, "", came...)
	}
	// No field, and more than 512 bytes; an 0a alone, and as many.
	near, came := last+lines(250, 250), laid(250, 250)
	for _, s := range []string{"xxxxxxx" + end, "xxxxxxxx" + end, " X: abc" + end, "X : abcd" + end, "xxxxx\r\r" + end, "X: abcd\n", "xxxxxxxx\n"} {
		holdStatus(t, 400, near+s, "", came...)
	}
	holdStatus(t, 431, near+"X: abcd"+end, "", came...)
	holdStatus(t, 400, near+"xxxxxx"+end, "", came...)
	// The ninth, and more than 512 bytes: no field among them.
	full, came := last+lines(61, 61, 61, 61, 61, 61, 61, 61), laid(61, 61, 61, 61, 61, 61, 61, 61)
	holdStatus(t, 431, full+"X: abc"+end, "", came...)
	holdStatus(t, 431, full+"X: abcd"+end, "", came...)
	holdStatus(t, 400, full+"X; abcd"+end, "", came...)
	holdStatus(t, 400, full+"X: abcd\n", "", came...)
	// No size line, and more than MaxBody; an 0a alone, and as many.
	for _, s := range []string{"fffffff" + end, "801;" + end, "801;a=" + end, "801 x" + end, "801\r" + end, "ffffff,a" + end, "0000801" + end, "801\n", "ffffff\n", "801;a=b\n"} {
		holdStatus(t, 400, s, "")
		holdStatus(t, 400, sized("abc")+s, "abc")
	}
	// Bytes that are too many are so ahead of the line's end: a size line's by 400, a trailer's by 431.
	holdStatus(t, 400, "ffffff"+strings.Repeat(" ", 59), "")
	holdStatus(t, 400, "x"+strings.Repeat(" ", 64), "")
	holdStatus(t, 431, last+"x"+strings.Repeat(" ", 256), "")
	holdStatus(t, 431, eight+"x"+strings.Repeat(" ", 256), "", laid(4, 4, 4, 4, 4, 4, 4, 4)...)
}

// P14.1: bytes behind an end belong to the end no more: how many were taken, and what was told, stay.
func TestTaken(t *testing.T) {
	for _, c := range []struct {
		s string
		w told
	}{
		{last + end, told{n: 5, whole: true}},
		{sized("abc") + last + end, told{n: 13, whole: true, body: "abc"}},
		{sized("abc") + last + "X: y" + end + end, told{n: 19, whole: true, body: "abc", trailers: fields("X", "y")}},
		{"\n", told{n: 1, status: 400}},
		{"x" + end, told{n: 3, status: 400}},
		{strings.Repeat("x", 65), told{n: 65, status: 400}},
		{"3" + end + "abcd", told{n: 7, status: 400, body: "abc"}},
		{"3" + end + "abc\r\r", told{n: 8, status: 400, body: "abc"}},
		{"801" + end, told{n: 5, status: 413}},
		{last + "x" + end, told{n: 6, status: 400}},
		{last + filled(257), told{n: 260, status: 431}},
		{last + lines(254, 254) + "x", told{n: 516, status: 431, trailers: laid(254, 254)}},
		{last + lines(3, 3, 3, 3, 3, 3, 3, 3, 3), told{n: 48, status: 431, trailers: laid(3, 3, 3, 3, 3, 3, 3, 3)}},
	} {
		for _, behind := range append(others(), text(1000)) {
			holdPieces(t, c.w, c.s+behind)
			holdPieces(t, c.w, c.s, behind)
			holdPieces(t, c.w, c.s[:1], c.s[1:]+behind)
		}
		hold(t, c.s, c.w)
	}
}

// holdEncode holds the bytes, and what a Reader makes of them.
func holdEncode(t *testing.T, want string, parts ...string) {
	t.Helper()
	var rows [][]byte
	for _, s := range parts {
		rows = append(rows, []byte(s))
	}
	got := chunk.Encode(rows...)
	if string(got) != want {
		t.Errorf("Encode of %s is %s, not %s", short(parts), short(string(got)), short(want))
	}
	body := strings.Join(parts, "")
	if len(body) <= api.MaxBody {
		holdInPieces(t, string(got)+"x", told{n: len(got), whole: true, body: body})
		holdInPieces(t, string(got), told{n: len(got), whole: true, body: body})
	}
}

// P14.2, P14.3: Encode of no part, of empty ones, of one and of many; Feed of it is whole, and Body is the parts.
func TestEncode(t *testing.T) {
	const over = "0\r\n\r\n"
	if got := chunk.Encode(); string(got) != over {
		t.Errorf("Encode of nothing is %s", short(string(got)))
	}
	if got := chunk.Encode(nil, []byte{}, nil); string(got) != over {
		t.Errorf("Encode of parts without a byte is %s", short(string(got)))
	}
	holdEncode(t, over)
	holdEncode(t, over, "")
	holdEncode(t, over, "", "", "")
	holdEncode(t, "3\r\nabc\r\n0\r\n\r\n", "abc")
	holdEncode(t, "1\r\na\r\n2\r\nbc\r\n0\r\n\r\n", "a", "bc")
	holdEncode(t, "1\r\na\r\n2\r\nbc\r\n0\r\n\r\n", "", "a", "", "", "bc", "")
	holdEncode(t, "1\r\n0\r\n0\r\n\r\n", "0")
	holdEncode(t, "5\r\n0\r\n\r\n\r\n0\r\n\r\n", over)
	holdEncode(t, "2\r\n\r\n\r\n1\r\n\n\r\n1\r\n\x00\r\n0\r\n\r\n", "\r\n", "\n", "\x00")
	for n, size := range map[int]string{1: "1", 9: "9", 10: "a", 15: "f", 16: "10", 31: "1f", 171: "ab", 255: "ff", 256: "100", 2047: "7ff", 2048: "800", 2049: "801", 4095: "fff", 65535: "ffff", 1 << 20: "100000", 1<<24 + 10: "100000a"} {
		s := text(n)
		holdEncode(t, size+end+s+end+over, s)
		if n < api.MaxBody {
			holdEncode(t, size+end+s+end+"1\r\nx\r\n"+over, s, "", "x")
		}
	}
	var parts []string
	want := ""
	for i := range api.MaxBody {
		parts = append(parts, string([]byte{byte(i)}))
		want += "1\r\n" + parts[i] + end
	}
	holdEncode(t, want+over, parts...)
	for i := range parts {
		if i%2 == 0 {
			parts[i] = ""
		}
	}
	holdEncode(t, string(chunk.Encode(rowsOf(parts)...)), parts...)
}

func rowsOf(parts []string) [][]byte {
	var rows [][]byte
	for _, s := range parts {
		if s != "" {
			rows = append(rows, []byte(s))
		}
	}
	return rows
}

// P14.3: of what Encode makes of too many bytes, Feed takes up to the size that is too great.
func TestEncodeOfTooMany(t *testing.T) {
	all := text(api.MaxBody + 1)
	one := string(chunk.Encode([]byte(all)))
	holdInPieces(t, one, told{n: 5, status: 413})
	two := string(chunk.Encode([]byte(all[:2000]), []byte(all[2000:])))
	holdInPieces(t, two, told{n: 2000 + 3 + 4 + 4, status: 413, body: all[:2000]})
	great := string(chunk.Encode(make([]byte, 1<<24)))
	holdPieces(t, told{n: 9, status: 400}, great)
}

// P14.3, W8: of a nil Reader all answers nothing.
func TestNil(t *testing.T) {
	var r *chunk.Reader
	for range 2 {
		for _, s := range append(others(), "3\r\nabc\r\n0\r\nX: y\r\n\r\n", strings.Repeat("x", 1<<20)) {
			if n, whole, status := r.Feed([]byte(s)); n != 0 || whole || status != 0 {
				t.Errorf("Feed(%s) of nil: %d, %v, %d", short(s), n, whole, status)
			}
		}
		if n, whole, status := r.Feed(nil); n != 0 || whole || status != 0 {
			t.Errorf("Feed(nil) of nil: %d, %v, %d", n, whole, status)
		}
		if b, l := r.Body(), r.Trailers(); len(b) != 0 || len(l) != 0 {
			t.Errorf("nil has %s, %s", short(string(b)), short(l))
		}
	}
}

// streams are bytes of bodies of all kinds, with those behind their ends.
func streams() []string {
	return []string{
		"", last + end, "3;a=b\r\nabc\r\n0\r\n\r\nx", sized("abc") + sized("d") + last + "X: y" + end + "Z:" + end + end + "GET", "\n", "3\n", "x\r\n", sized("abc") + "3\r\nabcd", "3\r\nabc\r\r", "801\r\n", last + "x\r\n", last + "X: y" + end + "\n",
		strings.Repeat("x", 70), sized("abc") + strings.Repeat("0", 70), last + filled(300), last + lines(200, 200, 200), last + lines(3, 3, 3, 3, 3, 3, 3, 3, 3, 3), sized(text(300)) + "7ff" + end, "5\r\na\r\nb", "3\r\nabc\r\n0\r\nX: y\r", last + lines(254, 254) + end,
	}
}

// W1: a Reader that New did not make panics at nothing; it is as one at the beginning.
func TestZero(t *testing.T) {
	for _, s := range streams() {
		r := &chunk.Reader{}
		if got, want := answers(r, s), answers(chunk.New(), s); got != want {
			t.Errorf("%s tells %s, not %s", short(s), short(got), short(want))
		}
	}
}

// tell is all that a Reader tells of bytes.
func tell(r *chunk.Reader, p []byte) string {
	n, whole, status := r.Feed(p)
	return fmt.Sprintf("%d %v %d %q %q\n", n, whole, status, r.Body(), r.Trailers())
}

// answers is all that a Reader tells, byte by byte.
func answers(r *chunk.Reader, s string) string {
	var b strings.Builder
	for i := range len(s) {
		b.WriteString(tell(r, []byte{s[i]}))
	}
	return b.String()
}

// P14.3, W6: what is handed in is left as it is, its spare room too.
func TestBytesAreLeftAlone(t *testing.T) {
	for _, s := range append(streams(), sized(text(2000))) {
		room := []byte(s + "SPARE ROOM")
		p := room[:len(s)]
		chunk.New().Feed(p)
		if string(room) != s+"SPARE ROOM" {
			t.Errorf("%s became %s", short(s), short(string(room)))
		}
		rows := [][]byte{p[:len(s)/2], p[len(s)/2:], nil, []byte("spare")}
		chunk.Encode(rows[:3]...)
		if string(room) != s+"SPARE ROOM" || string(rows[3]) != "spare" || !bytes.Equal(rows[0], []byte(s[:len(s)/2])) || !bytes.Equal(rows[1], []byte(s[len(s)/2:])) || rows[2] != nil {
			t.Errorf("%s became %s", short(s), short(rows))
		}
	}
}

// P14.3, W6: nothing of what was handed in is kept, when it is changed behind the call.
func TestBytesThatAreChangedAfterwards(t *testing.T) {
	const s = "4;name=value\r\nwo\r\n\r\n6\r\nlonger\r\n00\r\nFirst-Name: of a value\r\nSecond: \tone\r\n\r\n"
	want := told{n: len(s), whole: true, body: "wo\r\nlonger", trailers: fields("First-Name", "of a value", "Second", "one")}
	for i := range len(s) + 1 {
		r := chunk.New()
		for _, p := range [][]byte{[]byte(s[:i]), []byte(s[i:])} {
			r.Feed(p)
			for k := range p {
				p[k] = '?'
			}
		}
		if n, whole, status := r.Feed(nil); n != 0 || !whole || status != 0 {
			t.Errorf("cut at %d: %d, %v, %d", i, n, whole, status)
		}
		holdCame(t, r, "changed afterwards", want.body, want.trailers)
	}
	part := []byte("abc")
	got := chunk.Encode(part, part)
	copy(part, "xyz")
	if string(got) != "3\r\nabc\r\n3\r\nabc\r\n0\r\n\r\n" {
		t.Errorf("Encode became %s", short(string(got)))
	}
}

// P14.3, W6, W7: what was answered stays what it is, and when it is changed, spare room too, nothing else is.
func TestAnswersThatAreChangedAfterwards(t *testing.T) {
	r := chunk.New()
	r.Feed([]byte("8\r\nabc"))
	first := r.Body()
	r.Feed([]byte("defgh\r\n0\r\nX: y\r\nZ: a\r"))
	second, some := r.Body(), r.Trailers()
	if n, whole, status := r.Feed([]byte("\n\r\n")); n != 3 || !whole || status != 0 {
		t.Fatalf("its end: %d, %v, %d", n, whole, status)
	}
	third, all := r.Body(), r.Trailers()
	if string(first) != "abc" || string(second) != "abcdefgh" || !slices.Equal(some, fields("X", "y")) || !slices.Equal(all, fields("X", "y", "Z", "a")) {
		t.Errorf("they became %s, %s, %s, %s", first, second, short(some), short(all))
	}
	for _, b := range [][]byte{first, second} {
		b = b[:cap(b)]
		for i := range b {
			b[i] = '?'
		}
	}
	for _, l := range [][]api.Field{some, all} {
		l = l[:cap(l)]
		for i := range l {
			l[i] = api.Field{Name: "changed", Value: "changed"}
		}
	}
	if string(third) != "abcdefgh" {
		t.Errorf("the body became %s", third)
	}
	holdCame(t, r, "changed", "abcdefgh", fields("X", "y", "Z", "a"))
	one, two := chunk.Encode([]byte("abc")), chunk.Encode([]byte("abc"))
	for i := range one[:cap(one)] {
		one[:cap(one)][i] = '?'
	}
	if string(two) != "3\r\nabc\r\n0\r\n\r\n" || string(chunk.Encode()) != "0\r\n\r\n" {
		t.Errorf("Encode became %s", short(string(two)))
	}
	none := chunk.Encode()
	for i := range none[:cap(none)] {
		none[:cap(none)][i] = '?'
	}
	if string(chunk.Encode()) != "0\r\n\r\n" {
		t.Errorf("Encode of nothing became %s", short(string(chunk.Encode())))
	}
}

// P14.3: a body that is asked for at each place, and then changed, changes nothing of the Reader.
func TestAnswersThatAreChangedAtEachPlace(t *testing.T) {
	for _, s := range streams() {
		quiet, changed := chunk.New(), chunk.New()
		for i := range len(s) {
			want, got := tell(quiet, []byte{s[i]}), tell(changed, []byte{s[i]})
			if got != want {
				t.Fatalf("byte %d of %s tells %s, not %s", i, short(s), short(got), short(want))
			}
			b, l := changed.Body(), changed.Trailers()
			b, l = b[:cap(b)], l[:cap(l)]
			for k := range b {
				b[k] = '?'
			}
			for k := range l {
				l[k] = api.Field{Name: "?"}
			}
		}
	}
}

// shares tells whether two texts lie in the same memory.
func shares(a, b string) bool {
	from, to := uintptr(unsafe.Pointer(unsafe.StringData(a))), uintptr(unsafe.Pointer(unsafe.StringData(b)))
	return from < to+uintptr(len(b)) && to < from+uintptr(len(a))
}

// textOf is a list's text, with its spare room, in the list's memory.
func textOf(b []byte) string { return unsafe.String(unsafe.SliceData(b), cap(b)) }

// P14.3, W6: what is answered is new memory: it shares none with what was handed in, nor with another answer.
func TestAnswersAreNewMemory(t *testing.T) {
	p := []byte("5\r\nhello\r\n0\r\nFirst-Name: of a value\r\nSecond: another one\r\n\r\n")
	r := chunk.New()
	r.Feed(p)
	part := []byte("a part")
	texts := []string{textOf(p), textOf(part)}
	for range 3 {
		texts = append(texts, textOf(r.Body()), textOf(chunk.Encode(part)), textOf(chunk.Encode()))
		for _, x := range r.Trailers() {
			texts = append(texts, x.Name, x.Value)
		}
	}
	if len(texts) != 23 || slices.Contains(texts, "") {
		t.Fatalf("told %q", texts)
	}
	for i, a := range texts {
		for _, b := range texts[:i] {
			if shares(a, b) {
				t.Errorf("%q shares memory with %q", a, b)
			}
		}
	}
}

// P14.3, P0.7: two Readers that are given bytes in turn tell each what one alone tells.
func TestTwoReaders(t *testing.T) {
	for _, a := range streams() {
		for _, b := range streams() {
			one, other := chunk.New(), chunk.New()
			var gotOne, gotOther string
			for i := 0; i < max(len(a), len(b)); i += 3 {
				gotOne += tell(one, []byte(a[min(i, len(a)):min(i+3, len(a))]))
				gotOther += tell(other, []byte(b[min(i, len(b)):min(i+3, len(b))]))
			}
			alone, wantOne, wantOther := chunk.New(), "", ""
			for i := 0; i < max(len(a), len(b)); i += 3 {
				wantOne += tell(alone, []byte(a[min(i, len(a)):min(i+3, len(a))]))
			}
			alone = chunk.New()
			for i := 0; i < max(len(a), len(b)); i += 3 {
				wantOther += tell(alone, []byte(b[min(i, len(b)):min(i+3, len(b))]))
			}
			if gotOne != wantOne || gotOther != wantOther {
				t.Errorf("%s and %s tell %s and %s", short(a), short(b), short(gotOne), short(gotOther))
			}
		}
		one, other := chunk.New(), chunk.New()
		for i := range len(a) {
			if got, want := tell(one, []byte{a[i]}), tell(other, []byte{a[i]}); got != want {
				t.Errorf("byte %d of %s: %s, and %s", i, short(a), short(got), short(want))
			}
		}
	}
}

// P14.3, W2: many at once, each with a Reader of its own, are told what one is told.
func TestSeveralGoroutines(t *testing.T) {
	var want []string
	for _, s := range streams() {
		want = append(want, answers(chunk.New(), s))
	}
	var group sync.WaitGroup
	for range 8 {
		group.Go(func() {
			for i, s := range streams() {
				if got := answers(chunk.New(), s); got != want[i] {
					t.Errorf("%s tells %s, not %s", short(s), short(got), short(want[i]))
				}
			}
		})
	}
	group.Wait()
}

// W8: a Reader that is copied as a value goes on as the one it was.
func TestCopied(t *testing.T) {
	for _, s := range streams() {
		want := answers(chunk.New(), s)
		for i := 0; i < len(s); i += 1 + len(s)/50 {
			r := chunk.New()
			got := answers(r, s[:i])
			copied := *r
			if got += answers(&copied, s[i:]); got != want {
				t.Errorf("%s, copied behind %d, tells %s, not %s", short(s), i, short(got), short(want))
			}
		}
	}
}

// The stub's shape: what a Reader holds is its own alone.
func TestNothingExported(t *testing.T) {
	x := reflect.TypeFor[chunk.Reader]()
	for i := range x.NumField() {
		if x.Field(i).IsExported() {
			t.Errorf("a Reader shows %s", x.Field(i).Name)
		}
	}
	if n := reflect.TypeFor[*chunk.Reader]().NumMethod(); n != 3 {
		t.Errorf("a Reader has %d methods", n)
	}
}
