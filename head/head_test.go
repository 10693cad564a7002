package head_test

import (
	"fmt"
	"reflect"
	"slices"
	"strings"
	"sync"
	"testing"
	"unsafe"

	"usher/api"
	"usher/field"
	"usher/framing"
	"usher/head"
)

const (
	first = "GET / HTTP/1.1"
	host  = "Host: a"
	long  = 1 << 16
)

// The face: what the document lists stands so, and what the Fields have is had by embedding.
var (
	_ func() *head.Head                               = head.New
	_ func(*head.Head, string) (bool, int)            = (*head.Head).Line
	_ func(*head.Head) (string, api.Target, int)      = (*head.Head).Start
	_ func(*head.Head) framing.How                    = (*head.Head).How
	_ func(*head.Head, ...api.Field) (int, api.Errno) = (*head.Head).Add
	_ interface {
		Values(string) []string
		Get(string) string
		Has(string) bool
		Drop(...string) int
		All() []api.Field
		Len() int
	} = head.New()
)

// told is all that a head tells.
type told struct {
	method string
	target api.Target
	minor  int
	how    framing.How
	fields []api.Field
}

func tell(h *head.Head) told {
	var x told
	x.method, x.target, x.minor = h.Start()
	x.how = h.How()
	x.fields = append(x.fields, h.Fields.All()...)
	return x
}

// short is a text that can be shown.
func short(v any) string { return fmt.Sprintf("%.300q", fmt.Sprintf("%+v", v)) }

// behind is a head that was given these lines, each of which was neither the end nor refused.
func behind(t *testing.T, lines ...string) *head.Head {
	t.Helper()
	h := head.New()
	for i, s := range lines {
		if whole, status := h.Line(s); whole || status != 0 {
			t.Fatalf("line %d of %s: %v, %d", i, short(lines), whole, status)
		}
	}
	return h
}

// others are lines of each kind, to be given to a head that is whole or refused.
func others() []string {
	return []string{"", host, first, "GET /b HTTP/1.0", "X: y", "Content-Length: 5", " ", "a b", "GET / HTTP/2.0", "Host: b", strings.Repeat("x", api.MaxLine+1), strings.Repeat("\xff", long), "", ""}
}

// holdOver holds the last line's answer, that it is told again of any line, and that nothing is changed by these.
func holdOver(t *testing.T, whole bool, status int, lines ...string) *head.Head {
	t.Helper()
	last := len(lines) - 1
	h := behind(t, lines[:last]...)
	before := tell(h)
	if gotWhole, got := h.Line(lines[last]); gotWhole != whole || got != status {
		t.Errorf("the last line of %s: %v, %d, not %v, %d", short(lines), gotWhole, got, whole, status)
		return h
	}
	want := tell(h)
	if !whole && !reflect.DeepEqual(want, before) {
		t.Errorf("the last line of %s, refused, made %s of %s", short(lines), short(want), short(before))
	}
	for _, s := range others() {
		if gotWhole, got := h.Line(s); gotWhole != whole || got != status {
			t.Errorf("%s behind %s: %v, %d, not %v, %d", short(s), short(lines), gotWhole, got, whole, status)
		}
		if got := tell(h); !reflect.DeepEqual(got, want) {
			t.Errorf("%s behind %s made %s of %s", short(s), short(lines), short(got), short(want))
		}
	}
	return h
}

// holdStatus holds that the last line is refused, and none ahead of it.
func holdStatus(t *testing.T, status int, lines ...string) {
	t.Helper()
	holdOver(t, false, status, lines...)
}

// holdWhole holds that the lines and an empty one are a whole head.
func holdWhole(t *testing.T, lines ...string) told {
	t.Helper()
	return tell(holdOver(t, true, 0, append(slices.Clip(lines), "")...))
}

// holdStart holds a start line: what it says, at once and to the end.
func holdStart(t *testing.T, s, method string, x api.Target, minor int) {
	t.Helper()
	want := told{method: method, target: x, minor: minor}
	if got := tell(behind(t, s)); !reflect.DeepEqual(got, want) {
		t.Errorf("%s is %s, not %s", short(s), short(got), short(want))
	}
	got := holdWhole(t, s, host)
	if got.method != method || got.target != x || got.minor != minor {
		t.Errorf("%s is %s in the end, not %s", short(s), short(got), short(want))
	}
}

// holdRefused holds a start line that is refused: behind empty lines, too.
func holdRefused(t *testing.T, status int, s string) {
	t.Helper()
	for n := range api.EmptyLines + 1 {
		holdStatus(t, status, append(make([]string, n), s)...)
	}
}

func origin(path, query string) api.Target {
	return api.Target{Form: api.FormOrigin, Path: path, Query: query}
}

// The document's examples.
func TestExamples(t *testing.T) {
	got := holdWhole(t, "GET / HTTP/1.1", "Host: a")
	want := told{method: "GET", target: origin("/", ""), minor: 1, fields: []api.Field{{Name: "Host", Value: "a"}}}
	if !reflect.DeepEqual(got, want) {
		t.Errorf("it is %s", short(got))
	}
	holdStatus(t, 400, "GET  / HTTP/1.1")
}

// P13.1, P13.2: a new Head has no line, no start and no field; two are not one.
func TestNew(t *testing.T) {
	h, other := head.New(), head.New()
	if h == other || h.Fields == nil || h.Fields == other.Fields {
		t.Errorf("New is %p with %p, and %p with %p", h, h.Fields, other, other.Fields)
	}
	if got := tell(h); !reflect.DeepEqual(got, told{}) {
		t.Errorf("a new head tells %s", short(got))
	}
	if h.Len() != 0 || h.Has("Host") || h.Get("Host") != "" || len(h.Values("Host")) != 0 || h.Drop("Host") != 0 || len(h.All()) != 0 {
		t.Errorf("a new head has %s", short(h.All()))
	}
	if whole, status := h.Line(""); whole || status != 0 {
		t.Errorf("a new head's empty line: %v, %d", whole, status)
	}
	if x, ok := reflect.TypeFor[head.Head]().FieldByName("Fields"); !ok || !x.Anonymous || x.Type != reflect.TypeFor[*field.Fields]() {
		t.Errorf("Fields is %s", short(x))
	}
}

// P13.1: empty lines ahead of the start are passed over, as many as EmptyLines.
func TestEmptyLines(t *testing.T) {
	for n := range api.EmptyLines + 1 {
		empty := make([]string, n)
		if got := tell(behind(t, empty...)); !reflect.DeepEqual(got, told{}) {
			t.Errorf("behind %d empty lines it is %s", n, short(got))
		}
		want := told{method: "GET", target: origin("/", ""), minor: 1}
		if got := tell(behind(t, append(empty, first)...)); !reflect.DeepEqual(got, want) {
			t.Errorf("behind %d empty lines and the start it is %s", n, short(got))
		}
		holdWhole(t, append(empty, first, host)...)
		holdWhole(t, append(empty, "GET / HTTP/1.0")...)
		holdStatus(t, 400, append(empty, first, "")...)
		holdStatus(t, 400, append(empty, " ")...)
		holdStatus(t, 400, append(empty, "\t")...)
		holdStatus(t, 400, append(empty, "\r")...)
	}
	holdStatus(t, 400, make([]string, api.EmptyLines+1)...)
	if api.EmptyLines != 4 {
		t.Errorf("EmptyLines is %d", api.EmptyLines)
	}
}

// P13.1: a start has three parts with one blank each between.
func TestParts(t *testing.T) {
	for _, s := range []string{
		"GET", "/", "HTTP/1.1", "GET/HTTP/1.1", "GET\t/\tHTTP/1.1", // one
		"GET /", "GET HTTP/1.1", "/ HTTP/1.1", "GET /HTTP/1.1", "GET/ HTTP/1.1", "GET\t/ HTTP/1.1", "GET /\tHTTP/1.1", // two
		"GET / / HTTP/1.1", "GET / HTTP/1.1 x", "x GET / HTTP/1.1", "GET / HTTP/1.1 HTTP/1.1", "GET / HTTP /1.1", "G ET / HTTP/1.1", "GET /a b HTTP/1.1", "GET / x HTTP/1.1", // four
		"GET / a b HTTP/1.1", "GET / HTTP/1.1 GET / HTTP/1.1", strings.Repeat("a ", 100), // more
		"GET  / HTTP/1.1", "GET /  HTTP/1.1", "GET  /  HTTP/1.1", "GET   / HTTP/1.1", "GET /   HTTP/1.1",
		" GET / HTTP/1.1", "GET / HTTP/1.1 ", " GET / HTTP/1.1 ", "  GET / HTTP/1.1", "GET / HTTP/1.1  ",
		"\tGET / HTTP/1.1", "GET / HTTP/1.1\t", "GET\t / HTTP/1.1", "GET \t/ HTTP/1.1", "GET /\t HTTP/1.1", "GET / \tHTTP/1.1", "GET /a\tb HTTP/1.1", "GET\t/ HTTP/1.1 ",
		" ", "  ", "   ", "    ", "\t", "\t \t", // all parts empty
		" / HTTP/1.1", "GET  HTTP/1.1", "GET / ", "GET  ", "  HTTP/1.1", " / ", // one or two empty
		" GET /", "GET HTTP/1.1 ", " /HTTP/1.1 ",
		"GET\u00a0/\u00a0HTTP/1.1", "GET\x00/\x00HTTP/1.1", "GET\n/\nHTTP/1.1", "GET\v/\vHTTP/1.1", "GET+/+HTTP/1.1",
		"GET / HTTP/1.1\r", "GET / HTTP/1.1\n", "GET / HTTP/1.1\r\n", "\rGET / HTTP/1.1", "\nGET / HTTP/1.1", "GET /\r HTTP/1.1", "GET / HTTP/1.1\x00", "GET / HTTP/1.1\x0b", "GET / HTTP/1.1\x0c",
	} {
		holdRefused(t, 400, s)
	}
	holdStart(t, "GET / HTTP/1.1", "GET", origin("/", ""), 1)
}

// P13.1: an empty part is one without a blank: what is asked of it is asked in its order.
func TestEmptyParts(t *testing.T) {
	holdRefused(t, 400, "GET  HTTP/1.1")
	holdRefused(t, 400, "GET  HTTP/1.x")
	holdRefused(t, 505, "GET  HTTP/2.0")
	holdRefused(t, 400, " / HTTP/2.0")
	holdRefused(t, 400, "  HTTP/2.0")
	holdRefused(t, 400, "GET   HTTP/2.0")
}

// P13.1: the first part is a token, which is told as it is.
func TestMethods(t *testing.T) {
	for _, method := range []string{"GET", "get", "Get", "HEAD", "POST", "PUT", "DELETE", "TRACE", "PATCH", "X", "x", "1", "0GET", "-", "!#$%&'*+-.^_`|~", "HTTP", "GET.", strings.Repeat("M", api.MaxLine-len(" / HTTP/1.1"))} {
		holdStart(t, method+" / HTTP/1.1", method, origin("/", ""), 1)
	}
	for _, method := range []string{"", "G(T", "GET/", "/", "GET,", "G@T", "\"GET\"", "GET:", "GET;", "<GET>", "[GET]", "{GET}", "G=T", "G?T", "G\\T", "G\tT", "\tGET", "GET\t", "GET\r", "G\x00T", "G\x7fT", "GE\x80", "G\u00cbT", "\xff", "\u212a"} {
		holdRefused(t, 400, method+" / HTTP/1.1")
	}
}

// P13.1: each byte in a method, ahead, behind and within.
func TestMethodsOfEachByte(t *testing.T) {
	for i := range 256 {
		c := string([]byte{byte(i)})
		token := i >= '0' && i <= '9' || i >= 'A' && i <= 'Z' || i >= 'a' && i <= 'z' || strings.Contains("!#$%&'*+-.^_`|~", c) && i < 128
		for _, method := range []string{c, c + "ET", "G" + c + "T", "GE" + c} {
			if token {
				holdStart(t, method+" /b HTTP/1.1", method, origin("/b", ""), 1)
			} else {
				holdStatus(t, 400, method+" /b HTTP/1.1")
			}
		}
	}
}

// P13.1: the third part is a version: 505 of another first number, and each other second one is 1.
func TestVersions(t *testing.T) {
	for a := range 10 {
		for b := range 10 {
			s := fmt.Sprintf("GET / HTTP/%d.%d", a, b)
			switch {
			case a != 1:
				holdRefused(t, 505, s)
			case b == 0:
				holdStart(t, s, "GET", origin("/", ""), 0)
			default:
				holdStart(t, s, "GET", origin("/", ""), 1)
			}
		}
	}
	for _, version := range []string{
		"", "H", "HTTP", "HTTP/", "HTTP/1", "HTTP/1.", "HTTP/.1", "HTTP/1.10", "HTTP/1.11", "HTTP/11.1", "HTTP/01.1", "HTTP/10.0", "HTTP/1.1.1", "HTTP/1.1.", "HTTP/.1.1", "HTTP/111", "HTTP/11", "HTTP/1,1", "HTTP/1..1", "HTTP/...",
		"http/1.1", "Http/1.1", "hTTP/1.1", "HtTP/1.1", "HTtP/1.1", "HTTp/1.1", "HTTPS/1.1", "HTT/1.1", "TTP/1.1", "HTP/1.1", "XHTTP/1.1", "HTTP1.1", "HTTP//1.1", "HTTP\\1.1", "HTTP:1.1", "/1.1", "1.1", "HTTP-1.1", "FTP/1.1", "ICY/1.1", "XTTP/1.1",
		"HTTP/a.1", "HTTP/1.a", "HTTP/x.y", "HTTP/1.-", "HTTP/-1.1", "HTTP/+1.1", "HTTP/1.+", "HTTP/1. ", "HTTP/ .1", "HTTP/\u0661.1", "HTTP/1.\u0661", "HTTP/1.\xb9", "HTTP/\xb9.1", "HTTP/2", "HTTP/2.", "HTTP/2.a", "HTTP/a.0", "http/2.0", "HTTP/2.00", "HTTP/22.0", "HTTP/20",
		"HTTP/1,a", "HTTP/1aa", "HTTP/aa1", "HTTP/a.a", "HTTP/aaa", "HTTP/2,a", "HTTP/a,0", "HTTP/...", "HTTP/1::",
		"HTTP/1.1\t", "\tHTTP/1.1", "HTTP/1.1;", "HTTP/1.1,HTTP/1.0", "HTTP/1.1/", "HTTP/1.1\x00", strings.Repeat("HTTP/1.1", 9), "HTTP/" + strings.Repeat("1", 99),
	} {
		holdRefused(t, 400, "GET / "+version)
	}
}

// P13.1: each byte at each place of a version.
func TestVersionsOfEachByte(t *testing.T) {
	const version = "HTTP/1.1"
	for i := range len(version) {
		for c := range 256 {
			b := []byte(version)
			b[i] = byte(c)
			s := "GET / " + string(b)
			digit := c >= '0' && c <= '9'
			switch {
			case i == 7 && digit:
				holdStart(t, s, "GET", origin("/", ""), min(c-'0', 1))
			case i == 5 && digit && c != '1':
				holdStatus(t, 505, s)
			case string(b) != version:
				holdStatus(t, 400, s)
			}
			holdStatus(t, 400, "GET / "+version[:i]+string([]byte{byte(c)})+version[i:])
			holdStatus(t, 400, "GET / "+version[:i]+version[i+1:])
		}
	}
}

// P13.1, P13.2: the second part is chapter 11's target of the method, of each form.
func TestTargets(t *testing.T) {
	for _, c := range []struct {
		method, s string
		want      api.Target
	}{
		{"GET", "/", origin("/", "")},
		{"GET", "/a/./b%2f..?x=%20", origin("/a/", "x=%20")},
		{"get", "/a?", origin("/a", "")},
		{"GET", "/%41%20%e4", origin("/A \xe4", "")},
		{"GET", "http://a", api.Target{Form: api.FormAbsolute, Host: "a", Path: "/"}},
		{"GET", "HTTP://A.b:80/x/../y?z=/?", api.Target{Form: api.FormAbsolute, Host: "a.b:80", Path: "/y", Query: "z=/?"}},
		{"POST", "hTTp://A?b", api.Target{Form: api.FormAbsolute, Host: "a", Path: "/", Query: "b"}},
		{"CONNECT", "Example.com:443", api.Target{Form: api.FormAuthority, Host: "example.com:443"}},
		{"OPTIONS", "*", api.Target{Form: api.FormAsterisk}},
		{"OPTIONS", "/x", origin("/x", "")},
		{"OPTIONS", "http://A:1/", api.Target{Form: api.FormAbsolute, Host: "a:1", Path: "/"}},
		{"connect", "/x", origin("/x", "")},
		{"GET", "/" + strings.Repeat("a", api.MaxTarget-1), origin("/"+strings.Repeat("a", api.MaxTarget-1), "")},
		{"GET", "/?" + strings.Repeat("a", api.MaxTarget-2), origin("/", strings.Repeat("a", api.MaxTarget-2))},
	} {
		holdStart(t, c.method+" "+c.s+" HTTP/1.1", c.method, c.want, 1)
		if got := tell(behind(t, c.method+" "+c.s+" HTTP/1.0")); got.target != c.want || got.minor != 0 {
			t.Errorf("%s %s is %s", c.method, short(c.s), short(got))
		}
	}
}

// P13.1: 414 of a target that is too long, 400 of one that is none.
func TestWrongTargets(t *testing.T) {
	for _, c := range []struct{ method, s string }{
		{"GET", "*"}, {"GET", "a"}, {"GET", "a:80"}, {"GET", "?"}, {"GET", "?/"}, {"GET", "/.."}, {"GET", "/../a"}, {"GET", "/%"}, {"GET", "/%4"}, {"GET", "/%zz"}, {"GET", "/%00"}, {"GET", "/#"}, {"GET", "/a\tb"}, {"GET", "/\xe4"}, {"GET", "/\x00"}, {"GET", "/\x7f"}, {"GET", "/\""}, {"GET", "/<a>"}, {"GET", "/|"}, {"GET", "/\\"}, {"GET", "\\"}, {"GET", "https://a"}, {"GET", "http://"}, {"GET", "http:///"}, {"GET", "http:/a"}, {"GET", "http://a:"}, {"GET", "http://a:65536"}, {"GET", "http://a@b"}, {"GET", "http://a/.."}, {"GET", "HTTP/1.1"},
		{"CONNECT", "/"}, {"CONNECT", "a"}, {"CONNECT", "a:"}, {"CONNECT", "*"}, {"CONNECT", "http://a:80"}, {"CONNECT", "a:65536"}, {"CONNECT", ":80"}, {"CONNECT", ""},
		{"OPTIONS", "**"}, {"OPTIONS", "a"}, {"OPTIONS", ""}, {"options", "*"}, {"Options", "*"}, {"connect", "a:80"}, {"HEAD", "*"}, {"GET", ""},
	} {
		holdRefused(t, 400, c.method+" "+c.s+" HTTP/1.1")
		holdRefused(t, 400, c.method+" "+c.s+" HTTP/1.0")
	}
	for _, s := range []string{"/" + strings.Repeat("a", api.MaxTarget), strings.Repeat("/", api.MaxTarget+1), strings.Repeat("*", api.MaxTarget+1), strings.Repeat("\xff", api.MaxTarget+1), "http://a/" + strings.Repeat("a", api.MaxTarget-8), strings.Repeat("a", api.MaxTarget-1) + ":1"} {
		for _, method := range []string{"GET", "CONNECT", "OPTIONS", "x"} {
			holdRefused(t, 414, method+" "+s+" HTTP/1.1")
			holdRefused(t, 414, method+" "+s+" HTTP/1.0")
		}
	}
	holdRefused(t, 400, "GET "+strings.Repeat("a", api.MaxTarget)+" HTTP/1.1")
}

// sized is a start line of so many bytes.
func sized(n int) string {
	const end = " /" + " HTTP/1.1"
	return strings.Repeat("M", n-len(end)) + end
}

// filled is a field's line of so many bytes.
func filled(n int) string {
	const name = "X: "
	return name + strings.Repeat("x", n-len(name))
}

// P13.1: a line of MaxLine bytes may be; one more is 414 without a start, and 431 with one.
func TestLongLines(t *testing.T) {
	holdWhole(t, sized(api.MaxLine), host)
	holdWhole(t, sized(api.MaxLine-1), host)
	holdWhole(t, first, host, filled(api.MaxLine))
	holdWhole(t, first, filled(api.MaxLine-1), host)
	for _, n := range []int{api.MaxLine + 1, api.MaxLine + 2, api.MaxHead - 2, api.MaxHead - 1, api.MaxHead, 2 * api.MaxHead, long} {
		for _, s := range []string{sized(n), filled(n), strings.Repeat(" ", n), strings.Repeat("a", n), strings.Repeat("\xff", n), "GET / HTTP/2.0" + strings.Repeat(" ", n-14), "GET /" + strings.Repeat("a", n-14) + " HTTP/1.1", strings.Repeat("\r\n", n/2) + strings.Repeat("x", n%2)} {
			if len(s) != n {
				t.Fatalf("%d bytes, not %d", len(s), n)
			}
			holdRefused(t, 414, s)
			holdStatus(t, 431, first, s)
			holdStatus(t, 431, first, host, s)
			holdStatus(t, 431, "", "", first, host, "Content-Length: 5", s)
			holdStatus(t, 431, "GET / HTTP/1.0", s)
		}
	}
	// All of MaxLine bytes, but of other faults.
	holdRefused(t, 400, strings.Repeat("a", api.MaxLine))
	holdRefused(t, 400, strings.Repeat(" ", api.MaxLine))
	holdRefused(t, 414, "GET /"+strings.Repeat("a", api.MaxLine-14)+" HTTP/1.1")
	holdRefused(t, 505, strings.Repeat("M", api.MaxLine-11)+" / HTTP/2.0")
	holdStatus(t, 400, first, strings.Repeat("a", api.MaxLine))
}

// ofSize is lines of so many bytes, with their ends, that begin with these; each that is laid behind has some room, so that the last one alone goes above MaxHead.
func ofSize(t *testing.T, n int, lines ...string) []string {
	t.Helper()
	lines = slices.Clone(lines)
	for _, s := range lines {
		n -= len(s) + 2
	}
	for n > 0 {
		part := n
		if n > 200 {
			part = min(200, n/2)
		}
		lines = append(lines, filled(part-2))
		n -= part
	}
	return lines
}

// P13.1: all lines of MaxHead bytes with their ends may be; one more is 431: at a field, and at the empty line that ends the head.
func TestLongHeads(t *testing.T) {
	for empty := range api.EmptyLines + 1 {
		for _, start := range []string{first, sized(api.MaxLine), "GET / HTTP/1.0"} {
			begun := append(make([]string, empty), start, host)
			// A field is the last line that has room.
			just := ofSize(t, api.MaxHead, begun...)
			behind(t, just...)
			for _, s := range []string{"", "X: y", "x", " ", filled(api.MaxLine), filled(api.MaxLine + 1), strings.Repeat("x", long)} {
				holdStatus(t, 431, append(slices.Clip(just), s)...)
			}
			less := ofSize(t, api.MaxHead-1, begun...)
			behind(t, less...)
			holdStatus(t, 431, append(slices.Clip(less), "")...)
			// A field is one byte too long.
			more := ofSize(t, api.MaxHead+1, begun...)
			holdStatus(t, 431, more...)
			more = ofSize(t, api.MaxHead+2, begun...)
			holdStatus(t, 431, more...)
			// The empty line has just its room.
			holdWhole(t, ofSize(t, api.MaxHead-2, begun...)...)
			holdWhole(t, ofSize(t, api.MaxHead-3, begun...)...)
		}
	}
}

// P13.1: each length about MaxHead, told line by line, the last line being any one of the head's.
func TestEachLengthOfAHead(t *testing.T) {
	for n := api.MaxHead - 300; n < api.MaxHead+40; n++ {
		lines := ofSize(t, n, "", "", first, host)
		switch {
		case n > api.MaxHead:
			holdStatus(t, 431, lines...)
		case n > api.MaxHead-2:
			holdStatus(t, 431, append(lines, "")...)
		default:
			holdWhole(t, lines...)
		}
	}
}

// P13.1: a field that chapter 10 refuses is 400.
func TestWrongFields(t *testing.T) {
	for _, s := range []string{
		"x", "Host", "Host a", " Host: a", "\tHost: a", " x", "\tx", " ", "\t", " \t ", ":", ": a", " : a", "Host : a", "Host\t: a", "Ho st: a", "Ho\x00st: a", "Ho(st: a", "H\u00f6st: a", "\xff: a", "Host,: a", "a/b: c", "[a]: b", "\"a\": b", "a=b: c", "a@b: c",
		"Host: \x00", "Host: a\x00", "Host: a\rb", "Host: a\nb", "Host: a\r", "Host: \n", "Host: \x7f", "Host: a\x1fb", "Host: a\vb", "\r", "\n", "\r\n", "Host: a\r\nX: y", "\x00", "GET / HTTP/1.1", "GET http://a/ HTTP/1.1", "a b: c", "a;b:c",
	} {
		holdStatus(t, 400, first, s)
		holdStatus(t, 400, first, host, s)
		holdStatus(t, 400, "", "GET / HTTP/1.0", "X: y", host, s)
	}
}

// P13.1, P13.2: a field is laid behind, as it is.
func TestFields(t *testing.T) {
	lines := []string{"hOST:  a\t", "X:", "x: ", "Accept:\ta, b ; c", "!#$%&'*+-.^_`|~: \x80\xff~ !", "X::", "x: a:b: c", "Content-Length:0", "A: " + strings.Repeat("b", api.MaxLine-3)}
	want := []api.Field{{Name: "hOST", Value: "a"}, {Name: "X"}, {Name: "x"}, {Name: "Accept", Value: "a, b ; c"}, {Name: "!#$%&'*+-.^_`|~", Value: "\x80\xff~ !"}, {Name: "X", Value: ":"}, {Name: "x", Value: "a:b: c"}, {Name: "Content-Length", Value: "0"}, {Name: "A", Value: strings.Repeat("b", api.MaxLine-3)}}
	h := behind(t, first)
	for i, s := range lines {
		if whole, status := h.Line(s); whole || status != 0 {
			t.Fatalf("%s: %v, %d", short(s), whole, status)
		}
		if !slices.Equal(h.All(), want[:i+1]) || h.Len() != i+1 || h.Fields.Len() != i+1 {
			t.Errorf("behind %s there are %s", short(s), short(h.All()))
		}
	}
	if got := holdWhole(t, append([]string{first}, lines...)...); !slices.Equal(got.fields, want) {
		t.Errorf("in the end there are %s", short(got.fields))
	}
	if h.Get("HOST") != "a" || !h.Has("x") || h.Has("y") || !slices.Equal(h.Values("X"), []string{"", "", ":", "a:b: c"}) {
		t.Errorf("the head has %s", short(h.All()))
	}
}

// P13.1: MaxFields fields may be; one more is 431, one that is none 400 there, too.
func TestMaxFields(t *testing.T) {
	for _, name := range []string{"X", "x-y", "Accept"} {
		lines := []string{"", first, host}
		for len(lines) < api.MaxFields+2 {
			lines = append(lines, name+": "+string(rune('a'+len(lines))))
			behind(t, lines...)
		}
		lines = slices.Clip(lines)
		got := holdWhole(t, lines...)
		if len(got.fields) != api.MaxFields || got.fields[api.MaxFields-1].Value != "z" {
			t.Errorf("there are %d: %s", len(got.fields), short(got.fields))
		}
		for _, s := range []string{"X: y", host, name + ":", "Content-Length: x", "Y: " + strings.Repeat("y", api.MaxLine-3)} {
			holdStatus(t, 431, append(lines, s)...)
		}
		for _, s := range []string{"x", " X: y", "X : y", "X: \x00", " ", ":"} {
			holdStatus(t, 400, append(lines, s)...)
		}
	}
	if api.MaxFields != 24 {
		t.Errorf("MaxFields is %d", api.MaxFields)
	}
}

// P13.1, P13.2: a whole head goes on as chapter 12 says, with the minor of its start.
func TestHow(t *testing.T) {
	for _, c := range []struct {
		minor int
		lines string // by |
		want  framing.How
	}{
		{1, "Host: a", framing.How{}},
		{1, "hOST:", framing.How{}},
		{1, "Host: a|Content-Length: 5", framing.How{Kind: api.BodyLength, Length: 5}},
		{1, "Host: a|Content-Length: 5|content-length: 5", framing.How{Kind: api.BodyLength, Length: 5}},
		{1, "Host: a|Content-Length: 0", framing.How{Kind: api.BodyLength}},
		{1, "Content-Length: 2048|Host: a:80", framing.How{Kind: api.BodyLength, Length: api.MaxBody}},
		{1, "Host: a|Transfer-Encoding: chunked", framing.How{Kind: api.BodyChunked}},
		{1, "Host: a|Connection: close", framing.How{Close: true}},
		{1, "Host: a|Connection: keep-alive|Connection: Close|X: y", framing.How{Close: true}},
		{1, "Host: a|Expect: 100-continue", framing.How{}},
		{1, "Host: a|Expect: 100-Continue|Transfer-Encoding: Chunked|Connection: x", framing.How{Kind: api.BodyChunked, Expect: true}},
		{1, "Host: a|Expect: 100-continue|Content-Length: 1|Connection: close", framing.How{Kind: api.BodyLength, Length: 1, Close: true, Expect: true}},
		{0, "X: y", framing.How{Close: true}},
		{0, "Host: a|Connection: keep-alive", framing.How{}},
		{0, "Connection: keep-alive|Content-Length: 7|Expect: 100-continue", framing.How{Kind: api.BodyLength, Length: 7}},
		{0, "Expect: x", framing.How{Close: true}},
	} {
		lines := strings.Split(c.lines, "|")
		versions := []string{"1.0"}
		if c.minor == 1 {
			versions = []string{"1.1", "1.2", "1.9"}
		}
		for _, version := range versions {
			holdHow(t, c.want, append([]string{"POST /x HTTP/" + version}, lines...)...)
		}
	}
	holdHow(t, framing.How{Close: true}, "GET / HTTP/1.0")
	holdHow(t, framing.How{}, "CONNECT a:80 HTTP/1.1", host)
	holdHow(t, framing.How{}, "OPTIONS * HTTP/1.1", host)
}

// holdHow holds that nothing is told of how ahead of the end, and this behind it.
func holdHow(t *testing.T, want framing.How, lines ...string) {
	t.Helper()
	for i := range len(lines) + 1 {
		if how := behind(t, lines[:i]...).How(); how != (framing.How{}) {
			t.Errorf("behind %d lines of %s: %+v", i, short(lines), how)
		}
	}
	if got := holdWhole(t, lines...); got.how != want {
		t.Errorf("%s goes on as %+v, not %+v", short(lines), got.how, want)
	}
}

// P13.1: the empty line that ends a head is refused by chapter 12's status.
func TestRefusedHeads(t *testing.T) {
	for _, c := range []struct {
		status int
		lines  string // by |
	}{
		{400, "X: y"}, {400, "Host: /"}, {400, "Host: a|host: a"},
		{400, "Host: a|Transfer-Encoding: chunked|Content-Length: 5"}, {400, "Host: a|Transfer-Encoding: gzip"}, {400, "Host: a|Transfer-Encoding:"}, {501, "Host: a|Transfer-Encoding: gzip, chunked"}, {501, "Host: a|Transfer-Encoding: x|Transfer-Encoding: chunked|Expect: x"},
		{400, "Host: a|Content-Length: 5|Content-Length: 6"}, {400, "Host: a|Content-Length: x"}, {413, "Host: a|Content-Length: 2049"}, {413, "Host: a|Content-Length: 2049|Connection: a b"},
		{400, "Host: a|Connection: a b"}, {417, "Host: a|Expect: x"}, {417, "Host: a|Expect: 100-continue|Expect: 100-continue"}, {400, "Host: a|Expect: x|Connection: /"},
	} {
		lines := strings.Split(c.lines, "|")
		for _, version := range []string{"1.1", "1.5"} {
			all := append([]string{"", "PUT /a?b HTTP/" + version}, lines...)
			behind(t, all...)
			holdStatus(t, c.status, append(all, "")...)
		}
	}
	holdStatus(t, 400, first, "")
	holdStatus(t, 400, "CONNECT a:80 HTTP/1.1", "")
	holdStatus(t, 400, "GET http://a/ HTTP/1.1", "")
	holdStatus(t, 400, "GET / HTTP/1.0", "Transfer-Encoding: chunked", "")
	holdStatus(t, 413, "GET / HTTP/1.0", "Content-Length: 2049", "")
}

// P13.1: of each two statuses that apply to a start line, the one named first.
func TestOrderOfAStart(t *testing.T) {
	many := strings.Repeat("a", api.MaxTarget)
	for _, c := range []struct {
		status int
		s      string
	}{
		{414, sized(api.MaxLine + 1)},
		{414, "GET / / HTTP/1.1" + strings.Repeat("1", api.MaxLine)}, {414, "G(T / HTTP/1.1" + strings.Repeat("1", api.MaxLine)}, {414, strings.Repeat("M", api.MaxLine) + " / HTTP/2.0"}, {414, strings.Repeat("M", api.MaxLine) + " / http/1.1"}, {414, strings.Repeat("M", api.MaxLine) + " x HTTP/1.1"}, {414, "GET /" + strings.Repeat("a", api.MaxLine) + " HTTP/1.1"}, {414, strings.Repeat("/", api.MaxLine) + " x HTTP/2.0"},
		{400, "GET / x HTTP/2.0"}, {400, "GET / HTTP/2.0 "}, {400, " GET / HTTP/2.0"}, {400, "GET /" + many + " x HTTP/1.1"}, {400, "GET /" + many}, {400, "GET /" + many + "  HTTP/1.1"}, {400, "G(T /" + many + " x HTTP/2.0"}, {400, "G(T"},
		{400, "G(T / HTTP/2.0"}, {400, "G(T /" + many + " HTTP/1.1"}, {400, "G(T /" + many + " HTTP/2.0"}, {400, " / HTTP/3.0"}, {400, " /" + many + " HTTP/1.1"},
		{400, "GET /" + many + " http/1.1"}, {400, "GET /" + many + " HTTP/1"}, {400, "GET x http/2.0"}, {400, "G(T / http/1.1"},
		{505, "GET /" + many + " HTTP/2.0"}, {505, "GET x HTTP/0.9"}, {505, "GET * HTTP/9.9"}, {505, "CONNECT / HTTP/2.1"}, {505, "GET " + many + "aa HTTP/2.0"}, {505, "GET  HTTP/0.9"},
		{414, "GET " + many + "a HTTP/1.1"}, {414, "CONNECT /" + many + " HTTP/1.0"}, {400, "GET " + many + " HTTP/1.0"},
	} {
		holdRefused(t, c.status, c.s)
	}
}

// P13.1: of each two statuses that apply behind the start, the one named first.
func TestOrderBehindTheStart(t *testing.T) {
	begun := []string{first, "Host: /", "Content-Length: 2049", "Expect: x"}
	full := slices.Clone(begun)
	for len(full) < api.MaxFields+1 {
		full = append(full, "X: y")
	}
	full = slices.Clip(full)
	just := slices.Clip(ofSize(t, api.MaxHead, begun...))
	holdStatus(t, 431, append(full, "x"+strings.Repeat(" ", api.MaxLine))...)
	holdStatus(t, 431, append(full, filled(api.MaxLine+1))...)
	holdStatus(t, 431, append(just, "x")...)
	holdStatus(t, 431, append(just, " x: y")...)
	holdStatus(t, 431, append(just, "")...)
	holdStatus(t, 431, append(just, strings.Repeat("x", long))...)
	holdStatus(t, 400, append(full, "x")...)
	holdStatus(t, 400, append(full, " X: y")...)
	holdStatus(t, 431, append(full, "X: y")...)
	holdStatus(t, 400, append(full, "")...)
	holdStatus(t, 413, append([]string{first, host}, append(full[2:], "")...)...)
	holdStatus(t, 417, append([]string{first, host, "Content-Length: 5"}, append(full[3:], "")...)...)
	holdStatus(t, 431, append(slices.Clip(ofSize(t, api.MaxHead-1, first, host, "Content-Length: 2049")), "")...)
	holdStatus(t, 413, append(slices.Clip(ofSize(t, api.MaxHead-2, first, host, "Content-Length: 2049")), "")...)
	holdStatus(t, 431, append(slices.Clip(ofSize(t, api.MaxHead-1, first, host, "Transfer-Encoding: x, chunked")), "")...)
	holdStatus(t, 501, append(slices.Clip(ofSize(t, api.MaxHead-2, first, host, "Transfer-Encoding: x, chunked")), "")...)
}

// P13.2: the start is told from its line on, whatever comes behind it, and nothing is ahead of it or of one that is refused.
func TestStart(t *testing.T) {
	want := told{method: "PUT", target: origin("/a b", "c"), minor: 1}
	lines := []string{"", "", "PUT /a%20b?c HTTP/1.3", "Host: a", "X: y", "Content-Length: 5"}
	for i := range len(lines) + 1 {
		got := tell(behind(t, lines[:i]...))
		got.fields = nil
		if i < 3 && !reflect.DeepEqual(got, told{}) || i >= 3 && !reflect.DeepEqual(got, want) {
			t.Errorf("behind %d lines it is %s", i, short(got))
		}
	}
	for _, s := range []string{"x", "", strings.Repeat("x", api.MaxLine+1)} {
		for i := 3; i <= len(lines); i++ {
			h := behind(t, lines[:i]...)
			h.Line(s)
			if method, x, minor := h.Start(); method != want.method || x != want.target || minor != want.minor {
				t.Errorf("behind %d lines and %s the start is %s, %s, %d", i, short(s), method, short(x), minor)
			}
		}
	}
	for _, s := range []string{"PUT /a", "P(T /a HTTP/1.1", "PUT /a HTTP/1.x", "PUT /a HTTP/2.0", "PUT a HTTP/1.1", "PUT /a" + strings.Repeat("a", api.MaxTarget) + " HTTP/1.1", "PUT /a HTTP/1.1" + strings.Repeat(" ", api.MaxLine)} {
		for n := range api.EmptyLines + 1 {
			h := behind(t, make([]string, n)...)
			h.Line(s)
			h.Line(first)
			h.Line(host)
			h.Line("")
			if got := tell(h); !reflect.DeepEqual(got, told{}) {
				t.Errorf("behind %s the head tells %s", short(s), short(got))
			}
		}
	}
}

// P13.2: how is told behind the end alone, and nothing behind a refusal.
func TestHowOfRefused(t *testing.T) {
	for _, lines := range [][]string{
		{"x"}, {first, "x"}, {first, host, "Content-Length: 5", "Connection: close", "x"}, {first, host, "Content-Length: 2049", ""}, {first, "Content-Length: 5", "Connection: close", ""}, {first, host, "Content-Length: 5", "Expect: x", ""}, {first, host, "Transfer-Encoding: chunked", "Connection: a b", ""},
		{"GET / HTTP/1.0", "Host: /", ""}, {first, host, "Connection: close", strings.Repeat("x", api.MaxLine+1)}, {"", "", "", "", ""},
	} {
		h := holdOver(t, false, statusOf(t, lines), lines...)
		if how := h.How(); how != (framing.How{}) {
			t.Errorf("behind %s: %+v", short(lines), how)
		}
	}
}

// statusOf is the status of the last line, which must have one.
func statusOf(t *testing.T, lines []string) int {
	t.Helper()
	h, status := head.New(), 0
	for _, s := range lines {
		_, status = h.Line(s)
	}
	if status == 0 {
		t.Fatalf("%s are not refused", short(lines))
	}
	return status
}

// P13.2: through the Head its Fields answer what was Added by now, at each place.
func TestEmbedded(t *testing.T) {
	h := head.New()
	for i, c := range []struct {
		line string
		n    int // fields behind it
		via  string
	}{
		{"", 0, ""}, {"", 0, ""}, {first, 0, ""}, {host, 1, ""}, {"Via: 1", 2, "1"}, {"X:", 3, "1"}, {"via: 2", 4, "1, 2"}, {"", 4, "1, 2"}, {host, 4, "1, 2"}, {"x", 4, "1, 2"},
	} {
		h.Line(c.line)
		if h.Len() != c.n || len(h.All()) != c.n || h.Fields.Len() != c.n || h.Has("host") != (c.n > 0) || h.Has("VIA") != (c.via != "") || h.Has("x") != (c.n > 2) || h.Has("y") {
			t.Errorf("behind line %d there are %s", i, short(h.All()))
		}
		if got := h.Get("vIA"); got != c.via || strings.Join(h.Values("Via"), ", ") != c.via {
			t.Errorf("behind line %d Via is %s, not %s", i, got, c.via)
		}
	}
	refused := behind(t, first, host)
	refused.Line("x")
	refused.Line("X: y")
	if refused.Len() != 1 || refused.Get("Host") != "a" {
		t.Errorf("a head that was refused has %s", short(refused.All()))
	}
}

// P13.2: who takes fields out of a Head, or lays others, does it to its Fields: the end and the room go by what is there.
func TestEmbeddedChanges(t *testing.T) {
	h := behind(t, first, "Host: /", "X: y", "Host: b")
	if n := h.Drop("host", "x"); n != 3 || h.Len() != 0 {
		t.Errorf("Drop took %d, %s are left", n, short(h.All()))
	}
	if n, err := h.Add(api.Field{Name: "Host", Value: "c"}, api.Field{Name: "Content-Length", Value: "5"}, api.Field{Name: "a b"}); n != 2 || err != api.ErrSyntax {
		t.Errorf("Add laid %d, %v", n, err)
	}
	if whole, status := h.Line(""); !whole || status != 0 {
		t.Errorf("its end: %v, %d", whole, status)
	}
	want := framing.How{Kind: api.BodyLength, Length: 5}
	h.Drop("Content-Length")
	if how := h.How(); how != want {
		t.Errorf("it goes on as %+v", how)
	}
	full := behind(t, first)
	for range api.MaxFields {
		full.Add(api.Field{Name: "X"})
	}
	if whole, status := full.Line("X: y"); whole || status != 431 {
		t.Errorf("a field behind MaxFields that were laid: %v, %d", whole, status)
	}
}

// P13.3, W8: of a nil Head all answers nothing.
func TestNil(t *testing.T) {
	var h *head.Head
	for range 2 {
		for _, s := range append(others(), strings.Repeat("x", 1<<20)) {
			if whole, status := h.Line(s); whole || status != 0 {
				t.Errorf("Line(%s) of nil: %v, %d", short(s), whole, status)
			}
		}
		if method, x, minor := h.Start(); method != "" || x != (api.Target{}) || minor != 0 {
			t.Errorf("Start of nil: %s, %s, %d", method, short(x), minor)
		}
		if how := h.How(); how != (framing.How{}) {
			t.Errorf("How of nil: %+v", how)
		}
	}
}

// W1: a Head that New did not make panics at nothing, and ends.
func TestZero(t *testing.T) {
	for _, lines := range [][]string{others(), {first, host, ""}, {first, ""}, {"GET / HTTP/1.0", ""}, {"", "", "", "", ""}, {"x"}} {
		h := &head.Head{}
		for _, s := range lines {
			h.Line(s)
			h.Start()
			h.How()
		}
		if h.Len() != 0 || len(h.All()) != 0 {
			t.Errorf("it has %s", short(h.All()))
		}
	}
}

// P13.3, W7: what was answered stays what it is, behind later lines and when the answers are changed.
func TestAnswersStay(t *testing.T) {
	h := behind(t, "GET http://A.b/c?d HTTP/1.1", "Host: a")
	method, x, minor := h.Start()
	how, all, values := h.How(), h.All(), h.Values("Host")
	for _, s := range []string{"Host-2: b", "Content-Length: 5", "X: y"} {
		h.Line(s)
	}
	later := h.All()
	if whole, status := h.Line(""); !whole || status != 0 {
		t.Fatalf("its end: %v, %d", whole, status)
	}
	h.Drop("Host", "X")
	if method != "GET" || x != (api.Target{Form: api.FormAbsolute, Host: "a.b", Path: "/c", Query: "d"}) || minor != 1 || how != (framing.How{}) {
		t.Errorf("they became %s, %s, %d, %+v", method, short(x), minor, how)
	}
	if !slices.Equal(all, []api.Field{{Name: "Host", Value: "a"}}) || !slices.Equal(values, []string{"a"}) || len(later) != 4 || later[3] != (api.Field{Name: "X", Value: "y"}) {
		t.Errorf("they became %s, %s, %s", short(all), short(values), short(later))
	}
	x.Path, all[0].Value, later[1].Name = "/x", "x", "x"
	want := told{method: "GET", target: api.Target{Form: api.FormAbsolute, Host: "a.b", Path: "/c", Query: "d"}, minor: 1, how: framing.How{Kind: api.BodyLength, Length: 5}, fields: []api.Field{{Name: "Host-2", Value: "b"}, {Name: "Content-Length", Value: "5"}}}
	if got := tell(h); !reflect.DeepEqual(got, want) {
		t.Errorf("the head became %s", short(got))
	}
}

// W6: nothing of a line is kept, when its bytes are changed afterwards.
func TestLinesThatAreChangedAfterwards(t *testing.T) {
	lines := [][]byte{[]byte("METHOD http://www.example.org/one?two HTTP/1.1"), []byte("Host: www.example.org"), []byte("Long-Name:  a long value"), []byte("Content-Length: 0005")}
	h := head.New()
	for _, b := range lines {
		if whole, status := h.Line(unsafe.String(&b[0], len(b))); whole || status != 0 {
			t.Fatalf("%s: %v, %d", b, whole, status)
		}
		for i := range b {
			b[i] = '/'
		}
	}
	if whole, status := h.Line(""); !whole || status != 0 {
		t.Errorf("its end: %v, %d", whole, status)
	}
	want := told{
		method: "METHOD", target: api.Target{Form: api.FormAbsolute, Host: "www.example.org", Path: "/one", Query: "two"}, minor: 1, how: framing.How{Kind: api.BodyLength, Length: 5},
		fields: []api.Field{{Name: "Host", Value: "www.example.org"}, {Name: "Long-Name", Value: "a long value"}, {Name: "Content-Length", Value: "0005"}},
	}
	if got := tell(h); !reflect.DeepEqual(got, want) {
		t.Errorf("the head became %s", short(got))
	}
}

// shares tells whether two texts lie in the same memory.
func shares(a, b string) bool {
	from, to := uintptr(unsafe.Pointer(unsafe.StringData(a))), uintptr(unsafe.Pointer(unsafe.StringData(b)))
	return from < to+uintptr(len(b)) && to < from+uintptr(len(a))
}

// W6: what is answered is new memory: it shares none with an argument, nor with another answer.
func TestAnswersAreNewMemory(t *testing.T) {
	const start, line = "METHOD http://www.example.org:80/one/two?three=four HTTP/1.1", "Host: www.example.org:80"
	h := behind(t, start, line)
	texts := []string{start, line}
	for range 3 {
		method, x, _ := h.Start()
		texts = append(texts, method, x.Host, x.Path, x.Query, h.Get("Host"))
		for _, y := range h.All() {
			texts = append(texts, y.Name, y.Value)
		}
		h.Line("")
	}
	if len(texts) != 23 || slices.Contains(texts, "") {
		t.Fatalf("told %q", texts)
	}
	for i, a := range texts {
		for _, b := range texts[:i] {
			if shares(a, b) {
				t.Errorf("%q shares memory with %q", a, b)
			}
		}
	}
}

// heads are lines of heads of all kinds, with those behind their ends.
func heads() [][]string {
	return [][]string{
		{first, host, "", first}, {"", "", "POST /a?b HTTP/1.0", "Content-Length: 5", "", "x"}, {"GET  / HTTP/1.1", first, host, ""}, {first, "", host}, {first, host, "x", ""},
		{"OPTIONS * HTTP/1.1", host, "Expect: 100-continue", "Transfer-Encoding: chunked", "", ""}, {"", "", "", "", "", first}, {"GET / HTTP/2.0", host, ""}, {strings.Repeat("x", api.MaxLine+1), first}, {first, host, strings.Repeat("x", api.MaxLine+1), ""},
		{sized(api.MaxLine), filled(250), filled(250), filled(250), filled(250), ""}, {first, host, "Content-Length: 2049", "", "X: y"}, {"CONNECT a:80 HTTP/1.9", "Host: a:80", "Connection: close", ""},
	}
}

// answers is all that a head answers, line by line.
func answers(h *head.Head, lines []string) string {
	var b strings.Builder
	for _, s := range lines {
		whole, status := h.Line(s)
		fmt.Fprintf(&b, "%v %d %+v\n", whole, status, tell(h))
	}
	return b.String()
}

// P13.3, P0.7: two heads that are given lines in turn tell each what one alone tells.
func TestTwoHeads(t *testing.T) {
	for _, a := range heads() {
		for _, b := range heads() {
			one, other := head.New(), head.New()
			var gotOne, gotOther string
			for i := range max(len(a), len(b)) {
				gotOne += answers(one, a[min(i, len(a)):min(i+1, len(a))])
				gotOther += answers(other, b[min(i, len(b)):min(i+1, len(b))])
			}
			if want := answers(head.New(), a); gotOne != want {
				t.Errorf("%s tells %s, not %s", short(a), short(gotOne), short(want))
			}
			if want := answers(head.New(), b); gotOther != want {
				t.Errorf("%s tells %s, not %s", short(b), short(gotOther), short(want))
			}
		}
	}
}

// P13.3: what is asked in between changes nothing.
func TestAsking(t *testing.T) {
	for _, lines := range heads() {
		quiet, asked := head.New(), head.New()
		for _, s := range lines {
			whole, status := quiet.Line(s)
			for range 2 {
				asked.Start()
				asked.How()
				asked.All()
				asked.Get("Host")
				asked.Drop()
				asked.Add()
			}
			if gotWhole, got := asked.Line(s); gotWhole != whole || got != status {
				t.Errorf("%s of %s: %v, %d, not %v, %d", short(s), short(lines), gotWhole, got, whole, status)
			}
		}
		if got, want := tell(asked), tell(quiet); !reflect.DeepEqual(got, want) {
			t.Errorf("%s tells %s, not %s", short(lines), short(got), short(want))
		}
	}
}

// P13.3, W2: many at once, each with a head of its own, are told what one is told.
func TestSeveralGoroutines(t *testing.T) {
	var want []string
	for _, lines := range heads() {
		want = append(want, answers(head.New(), lines))
	}
	var group sync.WaitGroup
	for range 8 {
		group.Go(func() {
			for range 20 {
				for i, lines := range heads() {
					if got := answers(head.New(), lines); got != want[i] {
						t.Errorf("%s tells %s, not %s", short(lines), short(got), short(want[i]))
					}
				}
			}
		})
	}
	group.Wait()
}

// W8: a Head that is copied as a value goes on as the one it was.
func TestCopied(t *testing.T) {
	for _, lines := range heads() {
		for i := range lines {
			h := head.New()
			want := answers(head.New(), lines)
			got := answers(h, lines[:i])
			copied := *h
			if got += answers(&copied, lines[i:]); got != want {
				t.Errorf("%s, copied behind %d, tells %s, not %s", short(lines), i, short(got), short(want))
			}
		}
	}
}
