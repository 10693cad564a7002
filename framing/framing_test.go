package framing_test

import (
	"fmt"
	"slices"
	"strconv"
	"strings"
	"sync"
	"testing"

	"usher/api"
	"usher/field"
	"usher/framing"
)

const (
	host       = "Host: a"
	codingName = "Transfer-Encoding"
	lengthName = "Content-Length"
	chunked    = codingName + ": chunked"
	long       = 1 << 16
)

// What is told of a head, in short.
var (
	whole        = framing.How{Kind: api.BodyNone}
	closed       = framing.How{Kind: api.BodyNone, Close: true}
	inChunks     = framing.How{Kind: api.BodyChunked}
	chunksClosed = framing.How{Kind: api.BodyChunked, Close: true}
)

func sized(n int) framing.How { return framing.How{Kind: api.BodyLength, Length: n} }

func sizedClosed(n int) framing.How {
	return framing.How{Kind: api.BodyLength, Length: n, Close: true}
}

// expecting is how with Expect.
func expecting(how framing.How) framing.How {
	how.Expect = true
	return how
}

// short is a text that can be shown.
func short(v any) string { return fmt.Sprintf("%.300q", v) }

// row is lines as fields, one behind the other, as they are: a line that is no field is no test.
func row(t *testing.T, lines ...string) []api.Field {
	t.Helper()
	var l []api.Field
	for _, line := range lines {
		name, value, ok := strings.Cut(line, ":")
		if !ok {
			t.Fatalf("no line: %s", short(line))
		}
		l = append(l, api.Field{Name: name, Value: strings.Trim(value, " \t")})
	}
	return l
}

func laid(t *testing.T, l []api.Field) *field.Fields {
	t.Helper()
	f := &field.Fields{}
	if n, err := f.Add(l...); n != len(l) || err != api.OK {
		t.Fatalf("no fields: %s", short(l))
	}
	return f
}

// holdRow holds an answer twice, and the fields as they were ahead of it.
func holdRow(t *testing.T, minor int, l []api.Field, want framing.How, status int) {
	t.Helper()
	f := laid(t, l)
	for range 2 {
		if how, got := framing.Of(minor, f); how != want || got != status {
			t.Errorf("Of(%d, %s) = %+v, %d, not %+v, %d", minor, short(l), how, got, want, status)
		}
		if !slices.Equal(f.All(), l) {
			t.Errorf("Of(%d, %s) changed the fields: %s", minor, short(l), short(f.All()))
		}
	}
}

func hold(t *testing.T, minor int, want framing.How, lines ...string) {
	t.Helper()
	holdRow(t, minor, row(t, lines...), want, 0)
}

func holdStatus(t *testing.T, minor, status int, lines ...string) {
	t.Helper()
	holdRow(t, minor, row(t, lines...), framing.How{}, status)
}

// holdSame holds one answer for both minors, but that with minor 0 it is to be closed.
func holdSame(t *testing.T, want framing.How, lines ...string) {
	t.Helper()
	hold(t, 1, want, lines...)
	want.Close = true
	hold(t, 0, want, lines...)
}

func holdSameStatus(t *testing.T, status int, lines ...string) {
	t.Helper()
	holdStatus(t, 1, status, lines...)
	holdStatus(t, 0, status, lines...)
}

// The face: How's fields and Of's arguments stand as the document lists them.
var (
	_ = struct {
		Kind, Length  int
		Close, Expect bool
	}(framing.How{})
	_ func(int, *field.Fields) (framing.How, int) = framing.Of
)

// The document's examples.
func TestExamples(t *testing.T) {
	hold(t, 1, sized(5), "Host: a", "Content-Length: 5", "Content-Length: 5")
	holdStatus(t, 1, 501, "Host: a", "Transfer-Encoding: gzip, chunked")
}

// P12.1: below 1 counts as 0, above as 1.
func TestMinor(t *testing.T) {
	for _, minor := range []int{0, -1, -2, -9, -1 << 31, -1 << 62, -1 << 63} {
		hold(t, minor, closed)
		hold(t, minor, closed, host, "Expect: x")
		hold(t, minor, whole, "Connection: keep-alive")
		hold(t, minor, sizedClosed(3), "Content-Length: 3", "Expect: 100-continue")
		holdStatus(t, minor, 400, host, chunked)
	}
	for _, minor := range []int{1, 2, 3, 9, 1 << 31, 1 << 62, 1<<63 - 1} {
		holdStatus(t, minor, 400)
		holdStatus(t, minor, 417, host, "Expect: x")
		hold(t, minor, whole, host)
		hold(t, minor, closed, host, "Connection: close")
		hold(t, minor, expecting(sized(3)), host, "Content-Length: 3", "Expect: 100-continue")
		hold(t, minor, inChunks, host, chunked)
	}
}

// P12.2: no fields, three times over.
func TestWithoutFields(t *testing.T) {
	for _, f := range []*field.Fields{nil, field.Of(), {}} {
		if how, status := framing.Of(0, f); how != closed || status != 0 {
			t.Errorf("Of(0, none) = %+v, %d", how, status)
		}
		if how, status := framing.Of(1, f); how != (framing.How{}) || status != 400 {
			t.Errorf("Of(1, none) = %+v, %d", how, status)
		}
		if f.Len() != 0 {
			t.Errorf("Of laid %s", short(f.All()))
		}
	}
	var nobody []api.Field
	holdRow(t, 0, nobody, closed, 0)
	holdRow(t, 1, nobody, framing.How{}, 400)
	for minor := -3; minor < 4; minor++ {
		got, status := framing.Of(minor, nil)
		want, wantStatus := framing.Of(minor, field.Of())
		if got != want || status != wantStatus {
			t.Errorf("Of(%d, nil) = %+v, %d", minor, got, status)
		}
	}
}

// P12.1, Host: none with minor 0, just one with minor 1, and never two.
func TestHosts(t *testing.T) {
	hold(t, 0, closed)
	holdStatus(t, 1, 400)
	hold(t, 0, closed, "Hos: a", "Hosts: b", "X-Host: /", "Hos-t: /")
	holdStatus(t, 1, 400, "Hos: a", "Hosts: b", "X-Host: c", "Hos-t: d")
	for _, name := range []string{"Host", "host", "HOST", "hOsT", "HosT"} {
		holdSame(t, whole, name+": a")
		holdSame(t, whole, name+":")
		holdSameStatus(t, 400, name+": /")
		for _, other := range []string{"Host", "host", "hOST"} {
			for _, values := range [][]string{{"a", "a"}, {"a", "b"}, {"", ""}, {"", "a"}, {"a", ""}, {"a", "/"}, {"/", "a"}, {"/", "/"}} {
				holdSameStatus(t, 400, name+": "+values[0], other+": "+values[1])
				holdSameStatus(t, 400, name+": "+values[0], "Accept: x", other+": "+values[1])
			}
			holdSameStatus(t, 400, name+": a", other+": a", "Host: a")
		}
	}
	holdSame(t, whole, "A: /", "Host: a", "B: /")
	holdSame(t, whole, "Hosts: /", "Host: a")
	many := row(t, host)
	for len(many) < api.MaxFields {
		many = append(many, many[0])
		holdRow(t, 0, many, framing.How{}, 400)
		holdRow(t, 1, many, framing.How{}, 400)
	}
}

// P12.1, Host: its value is chapter 11's, or empty.
func TestHostValues(t *testing.T) {
	letters := "abcdefghijklmnopqrstuvwxyzABCDEFGHIJKLMNOPQRSTUVWXYZ0123456789-."
	for _, value := range []string{
		"", " ", "\t \t", "a", "A", "0", "-", ".", "a.b", "a.b.", "..", "127.0.0.1", "Example.COM", letters,
		"a:0", "a:80", "a:080", "a:00080", "a:65535", "A-1.b:8080", ".:1", "-:9",
		strings.Repeat("a", 100), strings.Repeat("a", 100) + ":80", strings.Repeat("A.-9", 25) + ":65535",
		" a", "a ", "\ta:80\t",
	} {
		holdSame(t, whole, "Host: "+value)
	}
	for _, value := range []string{
		":", ":80", "a:", "a:b", "a::80", "a:80:", "a:80:80", "a:-1", "a:+1", "a: 80", "a :80", "a:8,0", "a:0x50", "a:65536", "a:99999", "a:000080", "a:100000", "a:1000000000000000",
		"a b", "a,b", "a, b", "a,a", ",", "a,", ",a", "a/", "/a", "/", "a/b", "http://a", "a@b", "a_b", "a~", "a%41", "a?", "a#", "*", "[::1]", "[::1]:80", "(a)", "\"a\"", "a;b", "a=b", "a+b",
		"\u00e4", "a\xff", "\x80", "a\u00a0", "\u2028", strings.Repeat("a", 101), strings.Repeat("a", 101) + ":80", strings.Repeat("a", long), strings.Repeat(":", long),
	} {
		holdSameStatus(t, 400, "Host: "+value)
	}
}

// P12.1, Transfer-Encoding: with minor 1, and no Content-Length, just `chunked` is a body in chunks.
func TestChunked(t *testing.T) {
	for _, name := range []string{codingName, "transfer-encoding", "TRANSFER-ENCODING", "tRANSFER-eNCODING"} {
		for _, value := range []string{"chunked", "Chunked", "CHUNKED", "cHuNkEd", "chunkeD", ",chunked", "chunked,", ", ,chunked,\t,", "  chunked\t", "\t,\tCHUNKED ,"} {
			hold(t, 1, inChunks, host, name+": "+value)
			hold(t, 1, inChunks, name+": "+value, host)
			hold(t, 1, inChunks, host, name+":", name+": "+value)
			hold(t, 1, inChunks, host, name+": "+value, name+": ,", "X: gzip")
			hold(t, 1, chunksClosed, host, name+": "+value, "Connection: close")
			holdStatus(t, 0, 400, name+": "+value)
			holdStatus(t, 0, 400, host, name+": "+value, "Connection: keep-alive")
		}
	}
	hold(t, 1, inChunks, host, "TE: gzip", "Trailer: x", chunked, "Content-Encoding: gzip", "Transfer-Encodin: gzip", "Transfer-Encodings: gzip")
	hold(t, 1, whole, host, "TE: chunked", "Transfer-Encodings: chunked", "Transfer-Encodin: chunked", "TransferEncoding: chunked", "Content-Encoding: chunked", "X-Transfer-Encoding: chunked")
	hold(t, 0, closed, "TE: chunked", "Transfer-Encodings: chunked", "Content-Encoding: chunked")
}

// P12.1, Transfer-Encoding: 501, if `chunked` is the last one and no other one, behind other codings.
func TestOtherCodings(t *testing.T) {
	for _, values := range [][]string{
		{"gzip, chunked"}, {"gzip,chunked"}, {"GZIP, CHUNKED"}, {"gzip", "chunked"}, {"Gzip", "Chunked"}, {"gzip,", ",chunked"}, {"gzip", "", "chunked"}, {"", "gzip", ",", "chunked", ""},
		{"gzip, deflate, chunked"}, {"gzip", "deflate", "chunked"}, {"gzip, gzip, chunked"}, {"gzip", "gzip, chunked"}, {"gzip, deflate", "x, cHUNKED ,"},
		{"identity, chunked"}, {"x-chunked, chunked"}, {"chunked-x, chunked"}, {"chunke, chunked"}, {"chunkedd, chunked"}, {"5, chunked"}, {"*, chunked"}, {"!, chunked"},
		{strings.Repeat("gzip,", 1000) + "chunked"}, {strings.Repeat("x", long) + ",chunked"}, {"a" + strings.Repeat(",", long) + "chunked"},
	} {
		holdCodings(t, 501, values)
	}
}

// P12.1, Transfer-Encoding: 400 of no tokens, of no list, of `chunked` elsewhere or not at all.
func TestWrongCodings(t *testing.T) {
	for _, values := range [][]string{
		{""}, {" "}, {","}, {" ,\t, "}, {"", ""}, {",", "", ", ,"}, {strings.Repeat(",", long)},
		{"gzip"}, {"identity"}, {"gzip, deflate"}, {"gzip", "deflate"}, {"gzip", ""}, {"chunke"}, {"chunkedd"}, {"x-chunked"}, {"chunked-x"}, {"chun", "ked"}, {"chun,ked"}, {"0"}, {"*"},
		{"chunked, chunked"}, {"chunked", "chunked"}, {"Chunked", "CHUNKED"}, {"chunked,,chunked,"}, {"chunked, chunked, chunked"}, {"chunked", "", "chunked"},
		{"chunked, gzip, chunked"}, {"gzip, chunked, chunked"}, {"chunked", "gzip", "chunked"}, {"gzip", "chunked", "chunked"}, {"gzip, CHUNKED, deflate, chunked"},
		{"chunked, gzip"}, {"chunked", "gzip"}, {"gzip, chunked, deflate"}, {"gzip", "chunked", "deflate"}, {"chunked, identity"}, {"chunked, chunke"}, {"chunked, chunked, gzip"},
		{"chunked;q=1"}, {"chunked; x"}, {"chunked gzip"}, {"gzip chunked"}, {"chunked chunked"}, {"\"chunked\""}, {"chunked/1"}, {"chun\tked"}, {"chunked=1"}, {"(chunked)"}, {"chunked:"}, {"\u00e4, chunked"}, {"chunked\xff"}, {"chun\u212aed"},
		{"chunked, a b"}, {"a b, chunked"}, {"a b", "chunked"}, {"chunked", "a b"}, {"chunked", "/"}, {"/", "chunked"}, {"gzip;q=1, chunked"}, {"gzip, chunked, @"},
		{strings.Repeat("chunked,", 1000)}, {strings.Repeat("chunked", 1000)},
	} {
		holdCodings(t, 400, values)
	}
}

// holdCodings holds the status of these fields, with minor 1: with minor 0, and beside a length, it is 400 whatever they are.
func holdCodings(t *testing.T, status int, values []string) {
	t.Helper()
	lines := []string{host}
	for i, v := range values {
		lines = append(lines, []string{codingName, "transfer-encoding", "TRANSFER-encoding"}[i%3]+": "+v)
	}
	holdStatus(t, 1, status, lines...)
	holdStatus(t, 1, status, slices.Concat([]string{"A: chunked", "B: b"}, lines, []string{"C: chunked"})...)
	holdStatus(t, 0, 400, lines...)
	holdStatus(t, 0, 400, lines[1:]...)
	holdStatus(t, 1, 400, append(lines, lengthName+": 5")...)
}

// P12.1: a Transfer-Encoding beside a Content-Length is 400, whatever both are.
func TestCodingBesideLength(t *testing.T) {
	for _, coding := range []string{"chunked", "CHUNKED", "gzip, chunked", "gzip", "", ",", "a b", "chunked, chunked"} {
		for _, length := range []string{"5", "0", "", ",", "x", "a b", "5, 6", "2048", "2049", "9999999999999999"} {
			for _, name := range []string{"Content-Length", "content-length", "CONTENT-LENGTH"} {
				holdSameStatus(t, 400, host, codingName+": "+coding, name+": "+length)
				holdSameStatus(t, 400, name+": "+length, host, "transfer-encoding: "+coding)
			}
		}
	}
	hold(t, 1, inChunks, host, chunked, "Content-Lengths: 5", "Length: 5", "X-Content-Length: 5", "ContentLength: 5")
}

// P12.1, Content-Length: one number, once or several times.
func TestLengths(t *testing.T) {
	for n := range api.MaxBody + 1 {
		holdSame(t, sized(n), host, lengthName+": "+strconv.Itoa(n))
	}
	for _, c := range []struct {
		n      int
		values []string
	}{
		{0, []string{"0"}}, {0, []string{"00"}}, {0, []string{"000000000000000"}}, {0, []string{"0", "00", "0,000"}},
		{5, []string{"5"}}, {5, []string{"5, 5"}}, {5, []string{"5,5"}}, {5, []string{"5", "5"}}, {5, []string{"5", "5", "5"}}, {5, []string{"5,5", "5", "5,5,5"}},
		{5, []string{"05"}}, {5, []string{"5, 05"}}, {5, []string{"05", "5"}}, {5, []string{"005, 5", "0000005"}}, {5, []string{"000000000000005"}}, {5, []string{"5", "000000000000005"}},
		{5, []string{",5"}}, {5, []string{"5,"}}, {5, []string{" ,\t, 5 ,"}}, {5, []string{"", "5"}}, {5, []string{"5", ""}}, {5, []string{"5", ",", "", "5"}}, {5, []string{",,", "5", " , "}},
		{10, []string{"10", "010"}}, {8, []string{"08", "8"}}, {9, []string{"009"}}, {1234, []string{"1234", "01234"}},
		{api.MaxBody, []string{"2048"}}, {api.MaxBody, []string{"2048, 2048"}}, {api.MaxBody, []string{"02048", "2048", "000000000002048"}}, {api.MaxBody - 1, []string{"2047"}},
		{7, []string{strings.Repeat("7,", long)}}, {7, []string{strings.Repeat("7, 07 ,,", 1000), "7"}}, {7, []string{strings.Repeat(",", long) + "7"}},
	} {
		holdLengths(t, c.values, func(lines ...string) { holdSame(t, sized(c.n), lines...) })
	}
}

// P12.1, Content-Length: 413 above MaxBody, once or several times.
func TestLengthsTooGreat(t *testing.T) {
	for _, values := range [][]string{
		{"2049"}, {"2049, 2049"}, {"2049", "2049"}, {"02049"}, {"2049", "02049, 000000000002049"}, {"", "2049", ","}, {"2050"}, {"3000"}, {"4096"}, {"20480"}, {"100000"},
		{"65536"}, {"2147483647"}, {"2147483648"}, {"4294967296"}, {"4294967301"}, {"999999999999999"}, {"100000000000000"}, {"999999999999999", "999999999999999"}, {strings.Repeat("2049,", long)},
	} {
		holdLengths(t, values, func(lines ...string) { holdSameStatus(t, 413, lines...) })
	}
}

// P12.1, Content-Length: 400 of no tokens, of no list, of what is no number, of unlike numbers.
func TestWrongLengths(t *testing.T) {
	for _, values := range [][]string{
		{""}, {" "}, {","}, {" ,\t,"}, {"", ""}, {",", ""}, {strings.Repeat(",", long)},
		{"5, 6"}, {"5", "6"}, {"6", "5"}, {"5,5,6"}, {"5, 6, 5"}, {"6,5,5"}, {"5", "5", "6"}, {"5", "6,5"}, {"5", "50"}, {"50", "5"}, {"0", "5"}, {"5", "0"}, {"0, 0, 5"}, {"05, 50"}, {"2048, 2049"}, {"2049, 2048"}, {"2049", "2050"}, {"2050, 2049"},
		{"1000000000000000"}, {"0000000000000005"}, {"0000000000000000"}, {"9999999999999999"}, {"18446744073709551621"}, {"9223372036854775808"}, {strings.Repeat("0", long)}, {strings.Repeat("9", long)},
		{"5, 0000000000000005"}, {"0000000000000005", "5"}, {"2049, 9999999999999999"}, {"9999999999999999, 2049"}, {"0, 0000000000000000"}, {"0000000000000000", "0"},
		{"a"}, {"5a"}, {"a5"}, {"-5"}, {"+5"}, {"-0"}, {"5."}, {"5.0"}, {"0x5"}, {"5e0"}, {"1_0"}, {"five"}, {"close"}, {"chunked"}, {"!"}, {"ff"}, {"*"},
		{"5, a"}, {"a, 5"}, {"5", "a"}, {"a", "5"}, {"a, a"}, {"0, a"}, {"a, 0"}, {"a", "0"}, {"5,5,a"}, {"5", "-5"}, {"2049, a"}, {"a", "2049"}, {"0,a,0"},
		{"5 5"}, {"5\t6"}, {"5;q=1"}, {"\"5\""}, {"5/6"}, {"(5)"}, {"5=5"}, {"5:"}, {"\u0665"}, {"\xff"}, {"5\x80"}, {"5, 5 5"}, {"5 5, 5"}, {"5", "5 5"}, {"5 5", "5"}, {"5", "/"}, {"/", "5"}, {"2049, /"}, {"/, 2049"}, {"0", "0 0"},
		{strings.Repeat("5,", long) + "6"}, {"6," + strings.Repeat("5,", long)}, {strings.Repeat("5,", long) + "/"},
	} {
		holdLengths(t, values, func(lines ...string) { holdSameStatus(t, 400, lines...) })
	}
}

// holdLengths asks a test of these fields, alone and among others.
func holdLengths(t *testing.T, values []string, test func(...string)) {
	t.Helper()
	lines := []string{host}
	for i, v := range values {
		lines = append(lines, []string{"Content-Length", "content-length", "CONTENT-length"}[i%3]+": "+v)
	}
	test(lines...)
	test(slices.Concat([]string{"A: 7", "Content-Lengths: 8"}, lines, []string{"X-Content-Length: x", "Content-Type: y"})...)
	slices.Reverse(lines)
	test(lines...)
}

// P12.1: without either there is no body.
func TestNoBody(t *testing.T) {
	holdSame(t, whole, host)
	holdSame(t, whole, host, "Content-Type: text/plain", "Content-Lengt: 5", "Content-Lengths: 6", "ContentLength: x", "TE: chunked", "Upgrade: x", "Range: 1")
}

// P12.1, Connection: `close` closes; with minor 0 all else does, too, but `keep-alive`.
func TestConnection(t *testing.T) {
	for _, c := range []struct {
		values   []string
		old, now bool // Close with minor 0, with minor 1
	}{
		{nil, true, false}, {[]string{""}, true, false}, {[]string{","}, true, false}, {[]string{" ,\t, "}, true, false}, {[]string{"", "", ","}, true, false},
		{[]string{"close"}, true, true}, {[]string{"Close"}, true, true}, {[]string{"CLOSE"}, true, true}, {[]string{"cLoSe"}, true, true}, {[]string{",close,"}, true, true}, {[]string{"", "close"}, true, true}, {[]string{"close, close"}, true, true}, {[]string{"close", "close"}, true, true},
		{[]string{"keep-alive"}, false, false}, {[]string{"Keep-Alive"}, false, false}, {[]string{"KEEP-ALIVE"}, false, false}, {[]string{"kEEP-aLIVE ,"}, false, false}, {[]string{"", "keep-alive", ","}, false, false}, {[]string{"keep-alive", "keep-alive"}, false, false},
		{[]string{"close, keep-alive"}, true, true}, {[]string{"keep-alive, close"}, true, true}, {[]string{"close", "keep-alive"}, true, true}, {[]string{"keep-alive", "close"}, true, true}, {[]string{"Keep-Alive,CLOSE"}, true, true}, {[]string{"x, keep-alive", "y", "z, close, w"}, true, true},
		{[]string{"x"}, true, false}, {[]string{"upgrade"}, true, false}, {[]string{"upgrade, te"}, true, false}, {[]string{"closed"}, true, false}, {[]string{"clos"}, true, false}, {[]string{"not-close"}, true, false}, {[]string{"close-x"}, true, false}, {[]string{"keep-aliv"}, true, false}, {[]string{"keepalive"}, true, false}, {[]string{"keep-alive-x"}, true, false}, {[]string{"keep, alive"}, true, false}, {[]string{"keep-", "alive"}, true, false}, {[]string{"clo", "se"}, true, false}, {[]string{"keep_alive"}, true, false}, {[]string{"no-keep-alive"}, true, false},
		{[]string{"x, keep-alive"}, false, false}, {[]string{"keep-alive, x"}, false, false}, {[]string{"x", "keep-alive", "y"}, false, false}, {[]string{"TE, Keep-Alive, Upgrade"}, false, false}, {[]string{"closed, keep-alive"}, false, false},
		{[]string{"x, close"}, true, true}, {[]string{"close, x"}, true, true}, {[]string{"x", "y, close", "z"}, true, true}, {[]string{"TE,Close,Upgrade"}, true, true}, {[]string{"keepalive, close"}, true, true},
		{[]string{strings.Repeat("x,", long) + "close"}, true, true}, {[]string{strings.Repeat("x,", long) + "keep-alive"}, false, false}, {[]string{strings.Repeat("close", long)}, true, false}, {[]string{"keep-alive," + strings.Repeat("x,", long) + "y"}, false, false},
	} {
		lines := connections(c.values)
		for _, body := range []string{"X: close", "Content-Length: 5", "Content-Length: 0"} {
			kind, length := api.BodyNone, 0
			if number, ok := strings.CutPrefix(body, "Content-Length: "); ok {
				kind, length = api.BodyLength, int(number[0]-'0')
			}
			hold(t, 0, framing.How{Kind: kind, Length: length, Close: c.old}, append(lines, body)...)
			hold(t, 1, framing.How{Kind: kind, Length: length, Close: c.now}, append([]string{body}, lines...)...)
		}
		hold(t, 1, framing.How{Kind: api.BodyChunked, Close: c.now}, append(lines, chunked)...)
	}
	holdSame(t, whole, host, "Keep-Alive: close", "Connections: close", "Proxy-Connection: close", "Close: close", "X: keep-alive")
}

// connections is a Host, and fields Connection of these values, of names of either size.
func connections(values []string) []string {
	lines := []string{host}
	for i, v := range values {
		lines = append(lines, []string{"Connection", "connection", "CONNECTION"}[i%3]+": "+v)
	}
	return slices.Clip(lines)
}

// P12.1, Connection: 400, if it is no list.
func TestWrongConnection(t *testing.T) {
	for _, values := range [][]string{
		{"a b"}, {"close close"}, {"close keep-alive"}, {"keep alive"}, {"close;"}, {"close;q=1"}, {"keep-alive=1"}, {"\"close\""}, {"close/1"}, {"/"}, {"(close)"}, {"close:"}, {"@"}, {"a\tb"}, {"\xff"}, {"close\x80"}, {"\u00e4"}, {"\u212aeep-alive"},
		{"close, a b"}, {"a b, close"}, {"close", "a b"}, {"a b", "close"}, {"keep-alive", "/"}, {"/", "keep-alive"}, {"close, /, keep-alive"}, {"", "a b"}, {"/", ""}, {"close", "close", "close/"}, {strings.Repeat("close,", long) + "/"}, {strings.Repeat("/", long)},
	} {
		lines := connections(values)
		holdSameStatus(t, 400, lines...)
		holdSameStatus(t, 400, append(lines, "Content-Length: 5")...)
		holdSameStatus(t, 400, append(lines, "Expect: 100-continue")...)
		holdStatus(t, 1, 400, append(lines, chunked)...)
		holdStatus(t, 0, 400, lines[1:]...)
	}
}

// P12.1, Expect: with minor 1, where a body with at least one byte may come.
func TestExpect(t *testing.T) {
	for _, name := range []string{"Expect", "expect", "EXPECT", "eXpECT"} {
		for _, value := range []string{"100-continue", "100-Continue", "100-CONTINUE", "100-cOnTiNuE", "  100-continue\t"} {
			line := name + ": " + value
			hold(t, 1, whole, host, line)
			hold(t, 1, closed, host, line, "Connection: close")
			hold(t, 1, sized(0), host, line, "Content-Length: 0")
			hold(t, 1, sized(0), host, "Content-Length: 0, 00", line)
			hold(t, 1, expecting(sized(1)), host, line, "Content-Length: 1")
			hold(t, 1, expecting(sized(1)), "Content-Length: 1", line, host)
			hold(t, 1, expecting(sizedClosed(2)), host, line, "Content-Length: 2", "Connection: close")
			hold(t, 1, expecting(sized(api.MaxBody)), host, line, "Content-Length: 2048")
			hold(t, 1, expecting(inChunks), host, line, chunked)
			hold(t, 1, expecting(chunksClosed), host, line, chunked, "Connection: close")
			hold(t, 0, closed, host, line)
			hold(t, 0, sizedClosed(0), host, line, "Content-Length: 0")
			hold(t, 0, sizedClosed(5), host, line, "Content-Length: 5")
			hold(t, 0, sized(5), line, "Content-Length: 5", "Connection: keep-alive")
		}
	}
	hold(t, 1, sized(5), host, "Content-Length: 5", "Expects: 100-continue", "Expec: x", "X-Expect: 100-continue", "TE: 100-continue")
	hold(t, 1, inChunks, host, chunked, "Expects: x")
}

// P12.1, Expect: 417 of another value, also of two fields; nothing of it with minor 0.
func TestOtherExpect(t *testing.T) {
	for _, values := range [][]string{
		{""}, {" "}, {","}, {"x"}, {"100"}, {"100-continu"}, {"100-continued"}, {"100_continue"}, {"100 continue"}, {"100-continue,"}, {",100-continue"}, {"100-continue;"}, {"100-continue; x"}, {"\"100-continue\""}, {"100-continue=1"}, {"200-continue"}, {"continue"}, {"0100-continue"}, {"100-continue, x"}, {"x, 100-continue"}, {"100-continue, 100-continue"}, {"100-contin\u00fce"}, {"\xff"}, {"a b"}, {"/"}, {strings.Repeat("100-continue", long)},
		{"100-continue", "100-continue"}, {"100-continue", "100-CONTINUE"}, {"100-continue", ""}, {"", "100-continue"}, {"", ""}, {"100-continue", "x"}, {"x", "100-continue"}, {"100-", "continue"}, {"100-continue", "100-continue", "100-continue"},
	} {
		lines := []string{host}
		for i, v := range values {
			lines = append(lines, []string{"Expect", "expect", "EXPECT"}[i%3]+": "+v)
		}
		lines = slices.Clip(lines)
		for _, body := range []string{"X: y", chunked, "Content-Length: 0", "Content-Length: 5"} {
			holdStatus(t, 1, 417, append(lines, body)...)
			holdStatus(t, 1, 417, append([]string{body, "Connection: close"}, lines...)...)
		}
		hold(t, 0, closed, lines...)
		hold(t, 0, whole, append(lines, "Connection: keep-alive")...)
		hold(t, 0, sizedClosed(5), append(lines, "Content-Length: 5")...)
	}
}

// fault is lines by which a head is refused.
type fault struct {
	status int
	lines  []string
}

// faults are such, in the document's order; a head with a Host of its own is asked for where they have none.
func faults() [][]fault {
	return [][]fault{
		{{400, []string{"Host: /"}}, {400, []string{"Host: a", "Host: a"}}, {400, nil}},
		{{400, []string{chunked, "Content-Length: 5"}}, {400, []string{codingName + ":"}}, {400, []string{codingName + ": a b"}}, {400, []string{codingName + ": gzip"}}, {501, []string{codingName + ": gzip, chunked"}},
			{400, []string{"Content-Length: x"}}, {400, []string{"Content-Length:"}}, {400, []string{"Content-Length: 5, 6"}}, {413, []string{"Content-Length: 2049"}}},
		{{400, []string{"Connection: a b"}}},
		{{417, []string{"Expect: x"}}, {417, []string{"Expect: 100-continue", "Expect: 100-continue"}}},
	}
}

// P12.1: of each two statuses that apply, the one named first; in the fields' order lies nothing.
func TestOrderOfStatuses(t *testing.T) {
	steps := faults()
	for i, firsts := range steps {
		for _, first := range firsts {
			lines := slices.Clone(first.lines)
			if i > 0 {
				lines = append(lines, host)
			}
			holdStatus(t, 1, first.status, lines...)
			for _, seconds := range steps[i+1:] {
				for _, second := range seconds {
					holdStatus(t, 1, first.status, slices.Concat(lines, second.lines)...)
					holdStatus(t, 1, first.status, slices.Concat(second.lines, lines)...)
				}
			}
		}
	}
}

// P12.1: all four at once; each that is taken out tells the next one.
func TestAllStatuses(t *testing.T) {
	wrong := []string{"Expect: x", "Connection: a b", "Content-Length: 2049", "Host: /"}
	right := []string{"Expect: 100-continue", "Connection: close", "Content-Length: 2048", "Host: a"}
	for i, status := range []int{400, 413, 400, 417} {
		lines := slices.Concat(wrong[:len(wrong)-i], right[len(right)-i:])
		holdStatus(t, 1, status, lines...)
	}
	hold(t, 1, expecting(sizedClosed(2048)), right...)
	holdStatus(t, 1, 501, codingName+": x, chunked", "Expect: x", "Connection: a b", host)
	// With minor 0 an Expect is nothing, and a Transfer-Encoding is 400.
	holdStatus(t, 0, 400, codingName+": x, chunked", "Expect: x")
	holdStatus(t, 0, 413, "Content-Length: 2049", "Expect: x", "Connection: a b")
	holdStatus(t, 0, 400, "Content-Length: 2048", "Expect: x", "Connection: a b")
	hold(t, 0, sizedClosed(2048), "Content-Length: 2048", "Expect: x", "Connection: a")
}

// P12.1: a length is 400 ahead of 413, wherever the great one stands.
func TestOrderOfLengths(t *testing.T) {
	for _, wrong := range []string{"x", "6", "/", "9999999999999999", "2050"} {
		holdSameStatus(t, 400, host, "Content-Length: 2049, "+wrong)
		holdSameStatus(t, 400, host, "Content-Length: "+wrong+", 2049")
		holdSameStatus(t, 400, host, "Content-Length: 2049", "Content-Length: "+wrong)
		holdSameStatus(t, 400, host, "Content-Length: "+wrong, "Content-Length: 2049")
	}
}

// P12.2: the order of fields of unlike names tells nothing.
func TestOrderOfFields(t *testing.T) {
	lines := []string{host, "Content-Length: 5", "Connection: x, close", "Expect: 100-continue", "A: b"}
	eachOrder(lines, func(lines []string) {
		hold(t, 1, expecting(sizedClosed(5)), lines...)
		hold(t, 0, sizedClosed(5), lines...)
	})
}

// eachOrder goes through all orders of a row.
func eachOrder(row []string, do func([]string)) {
	var from func(int)
	from = func(i int) {
		if i == len(row) {
			do(slices.Clone(row))
		}
		for k := i; k < len(row); k++ {
			row[i], row[k] = row[k], row[i]
			from(i + 1)
			row[i], row[k] = row[k], row[i]
		}
	}
	from(0)
}

// P12.2, W7: what was answered stays, and later fields are answered by themselves.
func TestLaterChanges(t *testing.T) {
	f := laid(t, row(t, host, "Content-Length: 5", "Expect: 100-continue"))
	want := expecting(sized(5))
	first, status := framing.Of(1, f)
	f.Drop("content-length", "EXPECT")
	if first != want || status != 0 {
		t.Errorf("behind Drop: %+v, %d", first, status)
	}
	if how, status := framing.Of(1, f); how != whole || status != 0 {
		t.Errorf("of what is left: %+v, %d", how, status)
	}
	f.Add(row(t, chunked, "Connection: close")...)
	second, _ := framing.Of(1, f)
	f.Add(api.Field{Name: "Host", Value: "a"})
	if how, status := framing.Of(1, f); how != (framing.How{}) || status != 400 {
		t.Errorf("with two hosts: %+v, %d", how, status)
	}
	f.Drop("Host", "Connection", codingName)
	if how, status := framing.Of(0, f); how != closed || status != 0 {
		t.Errorf("without a field: %+v, %d", how, status)
	}
	if first != want || second != chunksClosed || f.Len() != 0 {
		t.Errorf("in the end: %+v, %+v, %d fields", first, second, f.Len())
	}
	first.Length, first.Close = 9, true
	f.Add(row(t, host, "Content-Length: 5", "Expect: 100-continue")...)
	if how, status := framing.Of(1, f); how != want || status != 0 {
		t.Errorf("anew: %+v, %d", how, status)
	}
}

// P12.2: many at once, each over fields of its own, tell what one tells.
func TestSeveralGoroutines(t *testing.T) {
	heads := [][]string{
		{host, "Content-Length: 5"}, {host, chunked, "Expect: 100-continue"}, {host, "Connection: close"}, {host, "Expect: x"}, {host, "Content-Length: 2049"}, {"Host: /"}, nil,
	}
	wants := []framing.How{sized(5), expecting(inChunks), closed, {}, {}, {}, {}}
	statuses := []int{0, 0, 0, 417, 413, 400, 400}
	var group sync.WaitGroup
	for i := range 8 * len(heads) {
		k := i % len(heads)
		f := laid(t, row(t, heads[k]...))
		group.Go(func() {
			for range 200 {
				if how, status := framing.Of(1, f); how != wants[k] || status != statuses[k] {
					t.Errorf("Of(1, %s) = %+v, %d", short(heads[k]), how, status)
				}
			}
		})
	}
	group.Wait()
}

// W1: as many fields as there may be, all of them long.
func TestMuch(t *testing.T) {
	lines := []string{host}
	for i := len(lines); i < api.MaxFields; i++ {
		lines = append(lines, "Content-Length: "+strings.Repeat("0000000002048, ,", 500))
	}
	holdSame(t, sized(2048), lines...)
	lines[api.MaxFields-1] += "2047"
	holdSameStatus(t, 400, lines...)
	lines[api.MaxFields-1] = "Expect: " + strings.Repeat("\xff \t", long) + "x"
	holdStatus(t, 1, 417, lines...)
	hold(t, 0, sizedClosed(2048), lines...)
	for i := 1; i < api.MaxFields; i++ {
		lines[i] = "Connection: " + strings.Repeat("keep-alive,", 500)
	}
	hold(t, 0, whole, lines...)
	lines[12] += "close"
	hold(t, 0, closed, lines...)
	hold(t, 1, closed, lines...)
	lines[7] += "\xff"
	holdSameStatus(t, 400, lines...)
}
