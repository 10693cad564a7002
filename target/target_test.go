package target_test

import (
	"fmt"
	"slices"
	"strings"
	"sync"
	"testing"
	"unsafe"

	"usher/api"
	"usher/target"
)

const (
	bigLetters   = "ABCDEFGHIJKLMNOPQRSTUVWXYZ"
	smallLetters = "abcdefghijklmnopqrstuvwxyz"
	digits       = "0123456789"
	hostBytes    = bigLetters + smallLetters + digits + "-."
	plainBytes   = bigLetters + smallLetters + digits + "-._~!$&'()*+,;=:@/"
	hexSmall     = "0123456789abcdef"
	hexBig       = "0123456789ABCDEF"
	long         = 1 << 16
)

func isHostByte(c byte) bool { return strings.IndexByte(hostBytes, c) >= 0 }

// isPlain tells whether a byte is written in a path as it is.
func isPlain(c byte) bool { return strings.IndexByte(plainBytes, c) >= 0 }

// isRaw tells whether a byte may stand in a path or a query.
func isRaw(c byte) bool { return isPlain(c) || c == '%' || c == '?' }

// lower is the small letter of one of A to Z; all else is as it is.
func lower(s string) string {
	for i := range len(bigLetters) {
		s = strings.ReplaceAll(s, bigLetters[i:i+1], smallLetters[i:i+1])
	}
	return s
}

// percent is a byte as two digits.
func percent(i int, digits string) string { return "%" + digits[i/16:i/16+1] + digits[i%16:i%16+1] }

// short is a text that can be shown.
func short(v any) string { return fmt.Sprintf("%.220q", v) }

func asterisk() api.Target { return api.Target{Form: api.FormAsterisk} }

func authority(host string) api.Target { return api.Target{Form: api.FormAuthority, Host: host} }

func origin(path, query string) api.Target {
	return api.Target{Form: api.FormOrigin, Path: path, Query: query}
}

func absolute(host, path, query string) api.Target {
	return api.Target{Form: api.FormAbsolute, Host: host, Path: path, Query: query}
}

// methodOf is the one that P11.6 asks with.
func methodOf(form int) string {
	switch form {
	case api.FormAuthority:
		return "CONNECT"
	case api.FormAsterisk:
		return "OPTIONS"
	}
	return "GET"
}

func holdHost(t *testing.T, want bool, s string) {
	t.Helper()
	if got := target.Host(s); got != want {
		t.Errorf("Host(%s) = %v", short(s), got)
	}
}

func holdDecode(t *testing.T, s, want string) {
	t.Helper()
	if got, err := target.Decode(s); got != want || err != api.OK {
		t.Errorf("Decode(%s) = %s, %v, not %s", short(s), short(got), err, short(want))
	}
}

func holdNoDecode(t *testing.T, s string) {
	t.Helper()
	if got, err := target.Decode(s); got != "" || err != api.ErrSyntax {
		t.Errorf("Decode(%s) = %s, %v, not nothing, ErrSyntax", short(s), short(got), err)
	}
}

// holdClean holds, too, that what is clean stays so (P11.6).
func holdClean(t *testing.T, s, want string) {
	t.Helper()
	for _, in := range []string{s, want} {
		if got, ok := target.Clean(in); got != want || !ok {
			t.Errorf("Clean(%s) = %s, %v, not %s", short(in), short(got), ok, short(want))
		}
	}
}

func holdNoClean(t *testing.T, s string) {
	t.Helper()
	if got, ok := target.Clean(s); got != "" || ok {
		t.Errorf("Clean(%s) = %s, %v, not nothing, false", short(s), short(got), ok)
	}
}

func holdParse(t *testing.T, method, s string, want api.Target) {
	t.Helper()
	if got, err := target.Parse(method, s); got != want || err != api.OK {
		t.Errorf("Parse(%s, %s) = %s, %v, not %s", short(method), short(s), short(got), err, short(want))
	}
}

func holdNoParse(t *testing.T, want api.Errno, method, s string) {
	t.Helper()
	if got, err := target.Parse(method, s); got != (api.Target{}) || err != want {
		t.Errorf("Parse(%s, %s) = %s, %v, not nothing, %v", short(method), short(s), short(got), err, want)
	}
}

// holdPrint holds, too, that what is written is Parsed so (P11.6).
func holdPrint(t *testing.T, x api.Target, want string) {
	t.Helper()
	if got, err := target.Print(x); got != want || err != api.OK {
		t.Errorf("Print(%s) = %s, %v, not %s", short(x), short(got), err, short(want))
	}
	holdParse(t, methodOf(x.Form), want, x)
}

func holdNoPrint(t *testing.T, x api.Target) {
	t.Helper()
	if got, err := target.Print(x); got != "" || err != api.ErrArg {
		t.Errorf("Print(%s) = %s, %v, not nothing, ErrArg", short(x), short(got), err)
	}
}

// otherMethods have no form of their own.
func otherMethods() []string {
	return []string{"GET", "HEAD", "POST", "PUT", "TRACE", "connect", "Connect", "CONNEC", "CONNECTS", " CONNECT", "CONNECT ", "options", "Options", "OPTION", "OPTIONSS", "", " ", "*", "/", "\x00", "\xff", strings.Repeat("X", long)}
}

// The chapter's examples.
func TestExamples(t *testing.T) {
	holdParse(t, "GET", "/a/./b%2f..?x=%20", origin("/a/", "x=%20"))
	holdNoParse(t, api.ErrSyntax, "GET", "/../a")
}

// P11.1: 1 to 100 bytes, with a port behind them and without.
func TestHost(t *testing.T) {
	for n := range 104 {
		for _, with := range []string{"a", "Z", "0", "-", "."} {
			name := strings.Repeat(with, n)
			good := n >= 1 && n <= 100
			for _, port := range []string{"", ":0", ":80", ":65535"} {
				holdHost(t, good, name+port)
			}
			for _, port := range []string{":", ":65536", ":000080", ":a"} {
				holdHost(t, false, name+port)
			}
		}
	}
	for s, want := range map[string]bool{
		"localhost":                   true,
		"www.Example.org":             true,
		"127.0.0.1:8080":              true,
		"-":                           true,
		".":                           true,
		"..":                          true,
		"a-b.c-d:1":                   true,
		"1:1":                         true,
		" ":                           false,
		"a ":                          false,
		" a":                          false,
		"a b":                         false,
		"a_b":                         false,
		"a,b":                         false,
		"a/":                          false,
		"a?":                          false,
		"a@b":                         false,
		"a%41":                        false,
		"[::1]":                       false,
		"[::1]:80":                    false,
		"\u00e4":                      false,
		"a\n":                         false,
		"\x00":                        false,
		strings.Repeat("a", long):     false,
		strings.Repeat(":", long):     false,
		"a:" + strings.Repeat("0", 5): true,
	} {
		holdHost(t, want, s)
	}
}

// P11.1: each byte, wherever it may stand in a name.
func TestHostOfEachByte(t *testing.T) {
	for i := range 256 {
		s := string([]byte{byte(i)})
		good := isHostByte(byte(i))
		for _, name := range []string{s, s + "a", "a" + s + "b", s + s, s + strings.Repeat("a", 99), strings.Repeat("a", 99) + s} {
			holdHost(t, good, name)
			holdHost(t, good, name+":80")
		}
		holdHost(t, good, "a"+s)
		holdHost(t, good || i == ':', "a"+s+"8") // a port
	}
}

// P11.1: 1 to 5 decimal digits behind one `:`, at most 65535.
func TestHostsPort(t *testing.T) {
	for port, want := range map[string]bool{
		"": false, "0": true, "1": true, "9": true, "80": true, "443": true, "8080": true, "10000": true, "65535": true, "65536": false, "65540": false,
		"65600": false, "66000": false, "70000": false, "99999": false, "100000": false, "655350": false, "131072": false, "4294967376": false, "18446744073709551696": false,
		"00": true, "00000": true, "00001": true, "00080": true, "09": true, "000000": false, "000001": false, "065535": false, "0065535": false,
		"a": false, "8a": false, "a8": false, "8a8": false, "ff": false, "0x1": false, "1e1": false, "-": false, "-1": false, "+1": false, "1.": false, ".1": false, "1.0": false,
		" ": false, " 1": false, "1 ": false, "1\n": false, "1_0": false, "1/": false, "1?": false, "\x00": false, "\xff": false, "\u0661": false,
		":": false, "1:": false, ":1": false, "1:1": false, "80:80": false, ":::": false,
		strings.Repeat("0", 15): false, strings.Repeat("0", 16): false, strings.Repeat("1", long): false,
	} {
		holdHost(t, want, "a:"+port)
		holdHost(t, want, strings.Repeat("Z", 100)+":"+port)
		holdHost(t, false, ":"+port)
		holdHost(t, false, strings.Repeat("Z", 101)+":"+port)
	}
	for n := range 100000 {
		s := fmt.Sprintf("a:%d", n)
		if target.Host(s) != (n <= 65535) {
			t.Errorf("Host(%q) = %v", s, n > 65535)
		}
	}
	for i := range 256 {
		s := string([]byte{byte(i)})
		digit := strings.Contains(digits, s)
		for _, port := range []string{s, s + "0", "6" + s + "0", "6" + s} {
			holdHost(t, digit, "a:"+port)
		}
		holdHost(t, false, "a:12345"+s)
		holdHost(t, false, "a:"+s+"12345")
	}
}

// P11.1: `%` and two digits are that byte, all else is as it is.
func TestDecode(t *testing.T) {
	for in, want := range map[string]string{
		"":                           "",
		"a":                          "a",
		"/a/./b/..?x=1":              "/a/./b/..?x=1",
		"+ &;":                       "+ &;",
		"\x00\xff\n":                 "\x00\xff\n", // only what stands for a byte may not be 0
		"%41":                        "A",
		"%41%42c%43":                 "ABcC",
		"a%20b":                      "a b",
		"%2f":                        "/",
		"%2F":                        "/",
		"%fF%Ff%ff%FF":               "\xff\xff\xff\xff",
		"%25":                        "%",
		"%2541":                      "%41", // once
		"%25%34%31":                  "%41",
		"%252525":                    "%2525",
		"%01":                        "\x01",
		"%10":                        "\x10",
		"%0a%0D":                     "\n\r",
		"%c3%a4":                     "\u00e4",
		"%411":                       "A1",
		"\u00e4%e4":                  "\u00e4\xe4",
		strings.Repeat("%61", long):  strings.Repeat("a", long),
		strings.Repeat("a", long):    strings.Repeat("a", long),
		strings.Repeat("a%2F", long): strings.Repeat("a/", long),
	} {
		holdDecode(t, in, want)
		holdDecode(t, "x"+in+"yz", "x"+want+"yz")
	}
}

// P11.1: a `%` without two digits, and one that stands for 0, wherever it stands.
func TestNoDecode(t *testing.T) {
	for _, wrong := range []string{
		"%", "%%", "%4", "%a", "%F", "%00", "%0", "%g", "%gg", "%4g", "%g4", "%G0", "%0G", "% 4", "%4 ", "%-1", "%+1", "%0x", "%x0", "%1_", "%\x00\x00", "%\xff\xff",
		"%4%", "%%4", "%4%41", "%%41", "%%341", "%u0041", "%/4", "%4/", "%:4", "%@4", "%`4", "%4/", "%4:", "%4@", "%4`", "%.4", "%4\n", "%\u0664\u0661",
	} {
		holdNoDecode(t, wrong)
		holdNoDecode(t, "%41"+wrong)
		holdNoDecode(t, "/a/"+wrong)
		holdNoDecode(t, strings.Repeat("a", long)+wrong)
		if len(wrong) > 2 {
			holdNoDecode(t, wrong+"41")
			holdNoDecode(t, wrong+"%41")
			holdNoDecode(t, wrong+"/"+wrong)
		}
	}
	holdNoDecode(t, strings.Repeat("%", long))
	holdNoDecode(t, strings.Repeat("%41", long)+"%")
	holdNoDecode(t, strings.Repeat("%41", long)+"%00")
}

// P11.1: each byte as it is and as two digits of either size, and each two bytes behind a `%`.
func TestDecodeOfEachByte(t *testing.T) {
	for i := range 256 {
		s := string([]byte{byte(i)})
		if i != '%' {
			holdDecode(t, s, s)
			holdDecode(t, "a"+s+"b", "a"+s+"b")
			holdDecode(t, "%41"+s, "A"+s)
		}
		small, big := percent(i, hexSmall), percent(i, hexBig)
		for _, in := range []string{small, big, small[:2] + big[2:], big[:2] + small[2:]} {
			if i == 0 {
				holdNoDecode(t, in)
				holdNoDecode(t, "a"+in+"b")
				continue
			}
			holdDecode(t, in, s)
			holdDecode(t, "a"+in+"b", "a"+s+"b")
			holdDecode(t, in+in, s+s)
		}
	}
	for i := range 256 {
		for k := range 256 {
			in := string([]byte{'%', byte(i), byte(k)})
			high, low := strings.IndexByte(hexSmall, lower(in[1:2])[0]), strings.IndexByte(hexSmall, lower(in[2:])[0])
			if high < 0 || low < 0 || high+low == 0 {
				holdNoDecode(t, in)
			} else {
				holdDecode(t, in, string([]byte{byte(high*16 + low)}))
			}
		}
	}
}

// P11.2: empty parts and `.` go, `..` takes the part ahead with it; a `/` at the end stays.
func TestClean(t *testing.T) {
	for in, want := range map[string]string{
		"/":      "/",
		"//":     "/",
		"///":    "/",
		"/.":     "/",
		"/./":    "/",
		"/./.":   "/",
		"/.//":   "/",
		"//.":    "/",
		"/a":     "/a",
		"/a/":    "/a/",
		"/a//":   "/a/",
		"//a":    "/a",
		"///a//": "/a/",
		"/a/b":   "/a/b",
		"/a/b/":  "/a/b/",
		"/a//b":  "/a/b",
		// `.` first, in the middle and last
		"/./a":     "/a",
		"/./a/":    "/a/",
		"/a/./b":   "/a/b",
		"/a/././b": "/a/b",
		"/a/.":     "/a/",
		"/a/./":    "/a/",
		"/a/b/.":   "/a/b/",
		"/a/.//.":  "/a/",
		// `..` in the middle and last
		"/a/..":            "/",
		"/a/../":           "/",
		"/a/../b":          "/b",
		"/a/../b/":         "/b/",
		"/a/b/..":          "/a/",
		"/a/b/../":         "/a/",
		"/a/b/../c":        "/a/c",
		"/a/b/../../c":     "/c",
		"/a/../b/../c":     "/c",
		"/a/b/../..":       "/",
		"/a/b/../../":      "/",
		"/a/b/c/../../d/.": "/a/d/",
		"/ab/cd/..":        "/ab/",
		"/ab/cd/../ef":     "/ab/ef",
		// What went is not the part ahead.
		"/a//..":     "/",
		"/a/./..":    "/",
		"/a/b//..":   "/a/",
		"/a/b/./../": "/a/",
		"/a//./..//": "/",
		"//a/..":     "/",
		"/./a/..":    "/",
		// Parts that only have dots in them.
		"/...":       "/...",
		"/.../":      "/.../",
		"/....":      "/....",
		"/..a":       "/..a",
		"/.a":        "/.a",
		"/a.":        "/a.",
		"/a..":       "/a..",
		"/a./":       "/a./",
		"/a../b":     "/a../b",
		"/.a/..b/c.": "/.a/..b/c.",
		"/.../..":    "/",
		"/..a/..":    "/",
		"/a/...":     "/a/...",
		"/. ":        "/. ",
		"/..\x00":    "/..\x00",
		// All other bytes are as they are.
		"/A/a":         "/A/a",
		"/%2e%2e/a":    "/%2e%2e/a",
		"/a%2f..":      "/a%2f..",
		"/a?b/../c":    "/c",
		"/?/..":        "/",
		"/ ":           "/ ",
		"/\\..\\a":     "/\\..\\a",
		"/\x00/\xff\n": "/\x00/\xff\n",
		"/\u00e4/../b": "/b",
		"/a/b?./..":    "/a/",
	} {
		holdClean(t, in, want)
	}
}

// P11.2: false, nothing, of what does not begin with a `/`, and of a way above the root.
func TestNoClean(t *testing.T) {
	for _, s := range []string{
		"", "a", "a/", "a/b", ".", "..", "./", "../", "./a", "../a", " /", "\\", "\\a", "*", "?", "%2f", "%2fa", "http://a/", "\x00/", "\n/a",
		"/..", "/../", "/../a", "/../a/", "/../..", "//..", "//../", "/./..", "/./../a", "/.//..", "/../.", "/..//", "/../...",
		"/a/../..", "/a/../../", "/a/../../b", "/a/..//..", "/a/.././..", "/a/b/../../..", "/a/b/../../../", "/a/b/../../../a/b", "/a/../b/../..", "/../a/..", "/a/../../a/b/c",
	} {
		holdNoClean(t, s)
	}
}

// P11.2: each byte is a part, or a part of one, but `/` and `.`.
func TestCleanOfEachByte(t *testing.T) {
	for i := range 256 {
		s := string([]byte{byte(i)})
		if i != '/' {
			holdClean(t, "/"+s+"a", "/"+s+"a")
			holdClean(t, "/a"+s+"/b", "/a"+s+"/b")
			holdClean(t, "/a/b"+s+"b/..", "/a/")
			holdNoClean(t, s)
			holdNoClean(t, s+"/a")
		}
		if i != '/' && i != '.' {
			holdClean(t, "/"+s, "/"+s)
			holdClean(t, "/"+s+"/", "/"+s+"/")
			holdClean(t, "/a/"+s+"/../b", "/a/b")
			holdClean(t, "/."+s+"/", "/."+s+"/")
			holdClean(t, "/a/.."+s, "/a/.."+s)
			holdClean(t, "/a/"+s+"..", "/a/"+s+"..")
		}
	}
}

// W1, P11.2: many parts, great ones, and ways up and down of any length.
func TestCleanOfMuch(t *testing.T) {
	holdClean(t, strings.Repeat("/", long), "/")
	holdClean(t, strings.Repeat("/.", long), "/")
	holdClean(t, strings.Repeat("/a", long), strings.Repeat("/a", long))
	holdClean(t, strings.Repeat("/a", long)+strings.Repeat("/..", long), "/")
	holdClean(t, strings.Repeat("/a", long)+strings.Repeat("/..", long-1), "/a/")
	holdNoClean(t, strings.Repeat("/a", long)+strings.Repeat("/..", long+1))
	holdNoClean(t, strings.Repeat("/..", long))
	holdClean(t, strings.Repeat("/a/..", long)+"/b", "/b")
	holdClean(t, "/"+strings.Repeat("a", long)+"/..", "/")
	holdClean(t, "/"+strings.Repeat(".", long), "/"+strings.Repeat(".", long))
	holdNoClean(t, strings.Repeat("a/", long))
}

// P11.3: a host with a port for CONNECT, in small letters, and nothing else.
func TestParseOfConnect(t *testing.T) {
	for s, host := range map[string]string{
		"a:1":                            "a:1",
		"www.Example.ORG:443":            "www.example.org:443",
		"127.0.0.1:0":                    "127.0.0.1:0",
		"a:00080":                        "a:00080",
		"-.:65535":                       "-.:65535",
		"http:1":                         "http:1",
		strings.Repeat("Z", 100) + ":80": strings.Repeat("z", 100) + ":80",
	} {
		holdParse(t, "CONNECT", s, authority(host))
	}
	for _, s := range []string{
		"", "a", "www.example.org", strings.Repeat("a", 100), // no `:`
		"a:", ":", ":80", "a:65536", "a:000080", "a:b", "a:1:2", "a b:1", "a_b:1", " a:1", "a:1 ", "a:1/", "a:1?", "a:1?x", strings.Repeat("a", 101) + ":80",
		"*", "/", "/a", "/a:1", "?", "http://a", "http://a:1", "http://a/", "HTTP://a:1/", "a:1/b", "user@a:1", "\x00:1", "\xff:1", "[::1]:80", "%41:1",
	} {
		holdNoParse(t, api.ErrSyntax, "CONNECT", s)
	}
	for _, method := range append(otherMethods(), "OPTIONS") {
		for _, s := range []string{"a:1", "www.example.org:443", "a", "localhost:80"} {
			holdNoParse(t, api.ErrSyntax, method, s)
		}
	}
}

// P11.3: `*` alone for OPTIONS, which may ask for paths as well.
func TestParseOfOptions(t *testing.T) {
	holdParse(t, "OPTIONS", "*", asterisk())
	holdParse(t, "OPTIONS", "/", origin("/", ""))
	holdParse(t, "OPTIONS", "/*", origin("/*", ""))
	holdParse(t, "OPTIONS", "/a?*", origin("/a", "*"))
	holdParse(t, "OPTIONS", "http://A", absolute("a", "/", ""))
	holdParse(t, "OPTIONS", "http://a/*", absolute("a", "/*", ""))
	for _, s := range []string{"", "**", "*/", "/../*", "*?", "*a", " *", "* ", "%2a", "%2A", "http://*", "http://*/"} {
		holdNoParse(t, api.ErrSyntax, "OPTIONS", s)
	}
	for _, method := range append(otherMethods(), "CONNECT") {
		holdNoParse(t, api.ErrSyntax, method, "*")
	}
}

// P11.3: all other methods, whatever they are, ask for paths and for what is absolute.
func TestParseOfOtherMethods(t *testing.T) {
	for _, method := range append(otherMethods(), "OPTIONS") {
		holdParse(t, method, "/a/../b?c", origin("/b", "c"))
		holdParse(t, method, "http://A:80/a/../b?c", absolute("a:80", "/b", "c"))
		for _, s := range []string{"", " ", "a", "a/b", "?", "?a", ".", "..", "%2f", "%2fa", "http", "http:", "http:/", "http:/a", "http://", "https://a/", "ftp://a/", "//a b", "\\", "\x00", "\xff", "\u00e4", " /", "/ ", "#", "/#"} {
			holdNoParse(t, api.ErrSyntax, method, s)
		}
	}
	holdNoParse(t, api.ErrSyntax, "CONNECT", "/a/../b?c")
	holdNoParse(t, api.ErrSyntax, "CONNECT", "http://A:80/a/../b?c")
}

// P11.3: letters of `http://` in either size; a host up to the next `/` or `?`, or the end; a `/` ahead of the rest.
func TestParseOfAbsolute(t *testing.T) {
	hosts := map[string]string{"a": "a", "A": "a", "www.Example.ORG": "www.example.org", "a:80": "a:80", "Z-9.:00080": "z-9.:00080", "http": "http", "HTTP:80": "http:80", ".": ".", "..": "..", strings.Repeat("Q", 100) + ":65535": strings.Repeat("q", 100) + ":65535"}
	rests := map[string]api.Target{
		"": origin("/", ""), "/": origin("/", ""), "?": origin("/", ""), "?x": origin("/", "x"), "?x/y?z": origin("/", "x/y?z"), "??": origin("/", "?"), "?/": origin("/", "/"), "?/../..": origin("/", "/../.."), "?%": origin("/", "%"),
		"/a": origin("/a", ""), "/a/": origin("/a/", ""), "//": origin("/", ""), "//a": origin("/a", ""), "/./": origin("/", ""), "/a?": origin("/a", ""), "/a?b": origin("/a", "b"), "/?b": origin("/", "b"), "/a/..?b": origin("/", "b"),
		"/%41": origin("/A", ""), "/http://b": origin("/http:/b", ""), "/a@b:c": origin("/a@b:c", ""), "?x=http://b/c": origin("/", "x=http://b/c"),
	}
	for host, small := range hosts {
		for rest, want := range rests {
			for _, scheme := range []string{"http://", "HTTP://", "hTtP://", "Http://", "httP://"} {
				holdParse(t, "GET", scheme+host+rest, absolute(small, want.Path, want.Query))
			}
			holdNoParse(t, api.ErrSyntax, "GET", host+rest)
			holdNoParse(t, api.ErrSyntax, "GET", "https://"+host+rest)
		}
	}
}

// P11.3, P11.4: no host, a wrong one, or a rest that is refused.
func TestParseOfNoAbsolute(t *testing.T) {
	for _, s := range []string{"", "/", "?", "/a", "?a", "//a", ":", ":80", ":80/", "a:", "a:/", "a:?x", "a:b/", "a:65536", "a:000080/", "a:1:2/", "a b/", " a/", "a /", "a_b", "a%41/", "%61", "user@a/", "user:1@a", "[::1]/", "*", "\x00", "\xff/", "a\x00", "a#", "a#b", "a/#", "a?#",
		strings.Repeat("a", 101), strings.Repeat("a", 101) + ":80/", "a/..", "a/../b", "a/b/../..", "a//..", "a/%2e%2e", "a/%", "a/%4", "a/%g0", "a/%00", "a/ ", "a/\x00", "a? ", "a?\n", "a/\xff", "a,b", "a;b/", "http://a"} {
		holdNoParse(t, api.ErrSyntax, "GET", "http://"+s)
		holdNoParse(t, api.ErrSyntax, "OPTIONS", "HTTP://"+s)
	}
	for i := range 256 {
		s := string([]byte{byte(i)})
		switch {
		case isHostByte(byte(i)):
			holdParse(t, "GET", "http://"+s, absolute(lower(s), "/", ""))
			holdParse(t, "GET", "http://a"+s+"b/c", absolute("a"+lower(s)+"b", "/c", ""))
		case i != '/' && i != '?' && i != ':':
			holdNoParse(t, api.ErrSyntax, "GET", "http://a"+s)
			holdNoParse(t, api.ErrSyntax, "GET", "http://a"+s+"1/c")
			holdNoParse(t, api.ErrSyntax, "GET", "http://a:"+s+"/c")
		}
		holdNoParse(t, api.ErrSyntax, "GET", "http:/"+s)
		for k, c := range []byte("http://") {
			scheme := "http://"[:k] + s + "http://"[k+1:]
			if good := lower(s)[0] == c; good {
				holdParse(t, "GET", scheme+"b", absolute("b", "/", ""))
			} else if i != '/' || k > 0 {
				holdNoParse(t, api.ErrSyntax, "GET", scheme+"b")
			}
		}
	}
}

// P11.3: MaxTarget bytes may be; ErrLong goes ahead of all that is wrong besides.
func TestParseOfLongTexts(t *testing.T) {
	fill := func(ahead, with string, n int) string { return ahead + strings.Repeat(with, n-len(ahead)) }
	for _, n := range []int{api.MaxTarget - 1, api.MaxTarget} {
		s := fill("/", "a", n)
		holdParse(t, "GET", s, origin(s, ""))
		s = fill("/?", "?", n)
		holdParse(t, "GET", s, origin("/", s[2:]))
		holdParse(t, "PUT", fill("/", "/", n), origin("/", ""))
		s = fill("http://a", "/", n)
		holdParse(t, "GET", s, absolute("a", "/", ""))
		s = fill("http://a?", "b", n)
		holdParse(t, "GET", s, absolute("a", "/", s[9:]))
		s = fill("HTTP://"+strings.Repeat("a", 100)+":65535/", "b", n)
		holdParse(t, "OPTIONS", s, absolute(strings.Repeat("a", 100)+":65535", s[113:], ""))
		for _, s := range []string{fill("", "a", n), fill("/", " ", n), fill("/a", "%", n), fill("/../", "a", n), fill("http://", "a", n), fill("*", "*", n), fill("", "\x00", n), fill("a:", "0", n)} {
			holdNoParse(t, api.ErrSyntax, "GET", s)
			holdNoParse(t, api.ErrSyntax, "OPTIONS", s)
		}
		for _, s := range []string{fill("a:", "0", n), fill("", "a", n), fill("/", "a", n), fill("http://a/", "b", n)} {
			holdNoParse(t, api.ErrSyntax, "CONNECT", s)
		}
	}
	for _, n := range []int{api.MaxTarget + 1, api.MaxTarget + 2, 2 * api.MaxTarget, long, long + api.MaxTarget} {
		for _, method := range append(otherMethods(), "CONNECT", "OPTIONS") {
			for _, ahead := range []string{"/", "/a?", "/%41", "http://a/", "http://a?", "", "a:1", "*", "/../", "/ ", "http://", "\x00", "/%"} {
				for _, with := range []string{"a", "/", "0", "\xff", "%", "*"} {
					holdNoParse(t, api.ErrLong, method, fill(ahead, with, n))
				}
			}
		}
	}
	s := "/" + strings.Repeat("%61", 66) + "b"
	holdParse(t, "GET", s, origin("/"+strings.Repeat("a", 66)+"b", ""))
	holdNoParse(t, api.ErrLong, "GET", s+"c") // what is decoded is short
}

// P11.4: what stands behind the first `?` is the query, as it is; a path is decoded, then cleaned.
func TestPathsAndQueries(t *testing.T) {
	for s, want := range map[string]api.Target{
		"/":              origin("/", ""),
		"/a":             origin("/a", ""),
		"/a/B/":          origin("/a/B/", ""),
		"/a?":            origin("/a", ""), // an empty one
		"/?":             origin("/", ""),
		"/a?b":           origin("/a", "b"),
		"/a?b=c&d":       origin("/a", "b=c&d"),
		"/a?b?c":         origin("/a", "b?c"),
		"/a??":           origin("/a", "?"),
		"/a?b?":          origin("/a", "b?"),
		"/a?b/../../..":  origin("/a", "b/../../.."),
		"/a?//./":        origin("/a", "//./"),
		"/a?%":           origin("/a", "%"),
		"/a?%4":          origin("/a", "%4"),
		"/a?%41":         origin("/a", "%41"),
		"/a?%zz":         origin("/a", "%zz"),
		"/a?%00":         origin("/a", "%00"),
		"/a?%%%":         origin("/a", "%%%"),
		"/a?A":           origin("/a", "A"),
		"/a/..?b":        origin("/", "b"),
		"/a/.?..":        origin("/a/", ".."),
		"/a%3Fb":         origin("/a?b", ""),
		"/a%3fb?c":       origin("/a?b", "c"),
		"/%41%62":        origin("/Ab", ""),
		"/a%20b":         origin("/a b", ""),
		"/a%2Fb":         origin("/a/b", ""),
		"/%2f%2F":        origin("/", ""),
		"/a%2f":          origin("/a/", ""),
		"/%2e":           origin("/", ""),
		"/a/%2e%2E":      origin("/", ""),
		"/a/b/%2e.":      origin("/a/", ""),
		"/a/.%2e/b":      origin("/b", ""),
		"/a/b%2f..%2Fc":  origin("/a/c", ""),
		"/%252e%252e":    origin("/%2e%2e", ""), // decoded once
		"/a%25":          origin("/a%", ""),
		"/a+b":           origin("/a+b", ""),
		"/%ff%FE":        origin("/\xff\xfe", ""),
		"/%c3%a4":        origin("/\u00e4", ""),
		"/%01%7f":        origin("/\x01\x7f", ""),
		"/a;b=c,d@e:f":   origin("/a;b=c,d@e:f", ""),
		"/http://b":      origin("/http:/b", ""),
		"//a/b":          origin("/a/b", ""), // no host
		"/...?...":       origin("/...", "..."),
		"/" + plainBytes: origin("/"+plainBytes, ""),
	} {
		holdParse(t, "GET", "/x/.."+s, want)
		holdParse(t, "GET", s, want)
		holdParse(t, "GET", "http://H"+s, absolute("h", want.Path, want.Query))
	}
}

// P11.4: what Decode or Clean refuses, and bytes that may not be.
func TestPathsThatAreRefused(t *testing.T) {
	for _, s := range []string{
		"/%", "/a%", "/%4", "/%?41", "/%4?1", "/%%", "/%zz", "/%4g", "/%g4", "/%00", "/a/%00/..", "/%0", "/a%?", "/%00?a",
		"/..", "/../", "/../a", "/..?", "/..?a", "/a/../..", "/a/../../b", "/%2e%2e", "/.%2E/a", "/%2f..", "/a%2f..%2f..", "//..", "/./..", "/../%", "/../%00",
		"/ ", "/a b", "/a?b c", "/a#b", "/a?b#c", "/\"", "/<a>", "/a?<b>", "/[a]", "/a?[b]", "/{a}", "/a|b", "/a\\b", "/a^b", "/a`b", "/a?`", "/\t", "/a\n", "/a?\r\n", "/\x00", "/a?\x00", "/\x7f", "/a?\x7f", "/\x80", "/a?\xff", "/\u00e4", "/a?\u00e4",
	} {
		for _, method := range []string{"GET", "OPTIONS", "POST", ""} {
			holdNoParse(t, api.ErrSyntax, method, s)
			holdNoParse(t, api.ErrSyntax, method, "http://h"+s)
		}
	}
}

// P11.4: each byte in a path and in a query, and as two digits in both.
func TestPathsAndQueriesOfEachByte(t *testing.T) {
	for i := range 256 {
		s := string([]byte{byte(i)})
		for _, query := range []string{s, s + "b", "b" + s, "b" + s + "c", "??" + s, "%" + s, "%4" + s} {
			if isRaw(byte(i)) {
				holdParse(t, "GET", "/a?"+query, origin("/a", query))
				holdParse(t, "GET", "http://h?"+query, absolute("h", "/", query))
			} else {
				holdNoParse(t, api.ErrSyntax, "GET", "/a?"+query)
				holdNoParse(t, api.ErrSyntax, "GET", "http://h?"+query)
			}
		}
		switch {
		case i == '/':
			holdParse(t, "GET", "/a"+s+"b", origin("/a/b", ""))
		case i == '?':
			holdParse(t, "GET", "/a"+s+"b", origin("/a", "b"))
		case isPlain(byte(i)):
			for _, path := range []string{"/" + s + "b", "/b" + s, "/a/b" + s + "c/"} {
				holdParse(t, "GET", path, origin(path, ""))
				holdParse(t, "GET", "http://h"+path, absolute("h", path, ""))
			}
		default:
			for _, path := range []string{"/" + s, "/" + s + "b", "/b" + s, "/a/b" + s + "c/", "/a" + s + "?b"} {
				holdNoParse(t, api.ErrSyntax, "GET", path)
				holdNoParse(t, api.ErrSyntax, "GET", "http://h"+path)
			}
		}
		for _, two := range []string{percent(i, hexSmall), percent(i, hexBig)} {
			switch i {
			case 0:
				holdNoParse(t, api.ErrSyntax, "GET", "/a"+two+"b")
			case '/':
				holdParse(t, "GET", "/a"+two+"b", origin("/a/b", ""))
			default:
				holdParse(t, "GET", "/a"+two+"b", origin("/a"+s+"b", ""))
				holdParse(t, "GET", "/a"+two+"b?"+two, origin("/a"+s+"b", two))
			}
		}
	}
}

// P11.5: each form as it is written.
func TestPrint(t *testing.T) {
	for want, x := range map[string]api.Target{
		"*":                                    asterisk(),
		"a:1":                                  authority("a:1"),
		"www.example.org:00443":                authority("www.example.org:00443"),
		strings.Repeat("z", 100) + ":0":        authority(strings.Repeat("z", 100) + ":0"),
		"/":                                    origin("/", ""),
		"/a":                                   origin("/a", ""),
		"/A/b/":                                origin("/A/b/", ""),
		"/?b":                                  origin("/", "b"),
		"/a?b?c":                               origin("/a", "b?c"),
		"/a??":                                 origin("/a", "?"),
		"/a?%41%":                              origin("/a", "%41%"),
		"/a%3F?b":                              origin("/a?", "b"),
		"/a%20b?c/../d":                        origin("/a b", "c/../d"),
		"/a%25":                                origin("/a%", ""),
		"/%252F":                               origin("/%2F", ""),
		"/%C3%A4%FF":                           origin("/\u00e4\xff", ""),
		"/%0A%01":                              origin("/\n\x01", ""),
		"/*":                                   origin("/*", ""),
		"/...":                                 origin("/...", ""),
		"/http:/a":                             origin("/http:/a", ""),
		"/-._~!$&'()*+,;=:@/":                  origin("/-._~!$&'()*+,;=:@/", ""),
		"/%22%23%3C%3E%5B%5C%5D%5E%60":         origin("/\"#<>[\\]^`", ""),
		"/%7B%7C%7D%7F%80?-._~!%$&'()*+":       origin("/{|}\x7f\x80", "-._~!%$&'()*+"),
		"http://a/":                            absolute("a", "/", ""),
		"http://a:80/?b":                       absolute("a:80", "/", "b"),
		"http://www.example.org/a/b%20c/?d?/%": absolute("www.example.org", "/a/b c/", "d?/%"),
		"http://../a":                          absolute("..", "/a", ""),
		"http://" + strings.Repeat("9", 100) + ":65535/a": absolute(strings.Repeat("9", 100)+":65535", "/a", ""),
	} {
		holdPrint(t, x, want)
	}
}

// P11.5: ErrArg of what no text is Parsed to.
func TestPrintOfWhatIsNotParsed(t *testing.T) {
	var wrong []api.Target
	for _, form := range []int{0, -1, 5, 6, -4, 1 << 20, -1 << 63, 1<<63 - 1, 1<<32 + 1} { // no form
		wrong = append(wrong, api.Target{Form: form}, api.Target{Form: form, Host: "a:1"}, api.Target{Form: form, Path: "/"}, api.Target{Form: form, Path: "*"}, api.Target{Form: form, Host: "a", Path: "/", Query: "b"})
	}
	for _, path := range []string{"", "a", "a/", "*", "//", "//a", "/a//", "/a//b", "/.", "/./", "/./a", "/a/.", "/a/./", "/..", "/../", "/../a", "/a/..", "/a/../", "/a/../b", "/a/b/../..", "http://a/", "http:/a", "?", " /", "\x00", "/\x00", "/a\x00b", "%2f", "\xff"} {
		wrong = append(wrong, origin(path, ""), origin(path, "b"), absolute("a", path, ""), absolute("a:80", path, "b"))
	}
	for _, query := range []string{" ", "a b", "#", "a#", "\"", "<", "[", "]", "\\", "^", "`", "{", "|", "}", "\x00", "a\x00", "\n", "\r\n", "\t", "\x7f", "\x80", "\xff", "\u00e4"} {
		wrong = append(wrong, origin("/", query), absolute("a", "/", query), origin("/a", "b"+query+"c"))
	}
	for _, host := range []string{"", "A", "aB", "A:80", "a:", ":80", ":", "a:65536", "a:000001", "a:1:2", "a b", "a/", "a/b", "a?", "a?b", "*", "/", "\x00", "\xff", "a_b", "%61", "http://a", strings.Repeat("a", 101), "a:1\n", " a:1"} {
		wrong = append(wrong, absolute(host, "/", ""), absolute(host, "/a", "b"), authority(host))
	}
	wrong = append(wrong, // fields that another form has
		authority("a"), authority(strings.Repeat("a", 100)),
		api.Target{Form: api.FormAsterisk, Host: "a"}, api.Target{Form: api.FormAsterisk, Path: "/"}, api.Target{Form: api.FormAsterisk, Path: "*"}, api.Target{Form: api.FormAsterisk, Query: "a"},
		api.Target{Form: api.FormAuthority, Host: "a:1", Path: "/"}, api.Target{Form: api.FormAuthority, Host: "a:1", Query: "b"}, api.Target{Form: api.FormAuthority, Path: "/a"}, api.Target{Form: api.FormAuthority, Path: "a:1"},
		api.Target{Form: api.FormOrigin, Host: "a", Path: "/"}, api.Target{Form: api.FormOrigin, Host: "a:1", Path: "/b", Query: "c"}, api.Target{Form: api.FormOrigin, Host: "/a"}, api.Target{Form: api.FormOrigin, Query: "/a"},
		api.Target{Form: api.FormAbsolute, Path: "/"}, api.Target{Form: api.FormAbsolute, Host: "a"}, api.Target{Form: api.FormAbsolute, Host: "a", Query: "b"}, api.Target{Form: api.FormAbsolute, Path: "http://a/"}, api.Target{Form: api.FormAbsolute, Query: "b"},
		api.Target{})
	for _, x := range wrong {
		holdNoPrint(t, x)
	}
}

// P11.5: each byte in a path: as it is, or two digits, capitals; each one in a query and in a host, as it is or refused.
func TestPrintOfEachByte(t *testing.T) {
	for i := range 256 {
		s := string([]byte{byte(i)})
		text := s
		if !isPlain(byte(i)) {
			text = percent(i, hexBig)
		}
		for _, x := range []struct{ ahead, behind string }{{"/a", "b"}, {"/a/b", ""}, {"/", "b/c"}} {
			path := x.ahead + s + x.behind
			switch {
			case i == 0 || i == '/' && x.ahead == "/":
				holdNoPrint(t, origin(path, ""))
				holdNoPrint(t, absolute("h", path, "q"))
			default:
				holdPrint(t, origin(path, ""), x.ahead+text+x.behind)
				holdPrint(t, absolute("h", path, "q"), "http://h"+x.ahead+text+x.behind+"?q")
			}
		}
		if isRaw(byte(i)) {
			holdPrint(t, origin("/a", s), "/a?"+s)
			holdPrint(t, absolute("h", "/", "b"+s+"c"), "http://h/?b"+s+"c")
		} else {
			holdNoPrint(t, origin("/a", s))
			holdNoPrint(t, absolute("h", "/", "b"+s+"c"))
		}
		if host := "a" + s + "b"; isHostByte(byte(i)) && lower(s) == s {
			holdPrint(t, absolute(host, "/", ""), "http://"+host+"/")
			holdPrint(t, authority(host+":1"), host+":1")
		} else {
			holdNoPrint(t, absolute(host, "/", ""))
			holdNoPrint(t, authority(host+":1"))
		}
	}
}

// P11.5: MaxTarget bytes may be written, and no more, whatever is Parsed so.
func TestPrintOfLongTargets(t *testing.T) {
	for n := api.MaxTarget - 3; n < api.MaxTarget+4; n++ {
		hold := func(x api.Target, want string) {
			t.Helper()
			if len(want) > api.MaxTarget {
				holdNoPrint(t, x)
			} else {
				holdPrint(t, x, want)
			}
		}
		a := func(had int) string { return strings.Repeat("a", n-had) }
		hold(origin("/"+a(1), ""), "/"+a(1))
		hold(origin("/"+a(2)+"/", ""), "/"+a(2)+"/")
		hold(origin("/", a(2)), "/?"+a(2))
		hold(origin("/b", a(3)), "/b?"+a(3))
		hold(origin("/ \xff", a(8)), "/%20%FF?"+a(8))
		hold(origin("/"+a(61)+strings.Repeat("?", 20), ""), "/"+a(61)+strings.Repeat("%3F", 20))
		hold(absolute("h", "/"+a(9), ""), "http://h/"+a(9))
		hold(absolute("h", "/", a(10)), "http://h/?"+a(10))
		hold(absolute(strings.Repeat("h", 100)+":80", "/"+a(111), ""), "http://"+strings.Repeat("h", 100)+":80/"+a(111))
		hold(absolute("h:1", "/\n", a(15)), "http://h:1/%0A?"+a(15))
	}
	hidden := "http://h?" + strings.Repeat("a", api.MaxTarget-9) // is written with a `/` more
	x := absolute("h", "/", strings.Repeat("a", api.MaxTarget-9))
	holdParse(t, "GET", hidden, x)
	holdNoPrint(t, x)
	holdPrint(t, absolute("h", "/", x.Query[1:]), "http://h/?"+x.Query[1:])
	great := strings.Repeat("a", long)
	for _, x := range []api.Target{origin("/"+great, ""), origin("/", great), origin(great, great), absolute(great, "/", ""), absolute("h", "/"+great, great), authority(great + ":1"), authority(great), {Form: api.FormAsterisk, Path: great}, {Path: great}} {
		holdNoPrint(t, x)
	}
	holdNoPrint(t, origin("/"+strings.Repeat("\xff", long), ""))
}

// P11.6: whatever text a target was Parsed from, what is Printed of it is Parsed so, and Printed so again.
func TestParseOfPrint(t *testing.T) {
	for _, c := range []struct{ method, s, want string }{
		{"GET", "/", "/"}, {"HEAD", "//a/./b/", "/a/b/"}, {"POST", "/%61%2f%20", "/a/%20"}, {"GET", "/a?", "/a"}, {"OPTIONS", "/a?%zz?", "/a?%zz?"},
		{"GET", "/%e4%E4", "/%E4%E4"}, {"GET", "/%2a%3a%7e", "/*:~"}, {"GET", "/%3f?", "/%3F"}, {"GET", "/%2525", "/%2525"}, {"", "/a/b/..", "/a/"},
		{"OPTIONS", "*", "*"}, {"CONNECT", "A.b:080", "a.b:080"},
		{"GET", "HTTP://A", "http://a/"}, {"OPTIONS", "hTTp://A:1?B", "http://a:1/?B"}, {"PUT", "http://a//b/%2E?", "http://a/b/"},
	} {
		x, err := target.Parse(c.method, c.s)
		if err != api.OK {
			t.Errorf("Parse(%q, %q): %v", c.method, c.s, err)
		}
		holdPrint(t, x, c.want)
	}
}

// P11.6, W6, W7: nothing of a text that was handed in is answered, when its bytes are changed afterwards.
func TestTextsThatAreChangedAfterwards(t *testing.T) {
	text := func(s string) (string, []byte) {
		b := []byte(s)
		return unsafe.String(&b[0], len(b)), b
	}
	all, bytes := text("/one/two?three=four")
	full, fullBytes := text("http://www.example.org/one?two")
	host, hostBytes := text("www.example.org:80")
	a, _ := target.Parse("GET", all)
	b, _ := target.Parse("GET", full)
	c, _ := target.Parse("CONNECT", host)
	decoded, _ := target.Decode(all)
	cleaned, _ := target.Clean(all)
	printed, _ := target.Print(origin(all[:8], all[9:]))
	printedFull, _ := target.Print(absolute(full[7:22], full[22:26], full[27:]))
	printedHost, _ := target.Print(authority(host))
	for _, l := range [][]byte{bytes, fullBytes, hostBytes} {
		for i := range l {
			l[i] = 'x'
		}
	}
	if a != origin("/one/two", "three=four") || b != absolute("www.example.org", "/one", "two") || c != authority("www.example.org:80") {
		t.Errorf("Parse became %s, %s, %s", short(a), short(b), short(c))
	}
	got := []string{decoded, cleaned, printed, printedFull, printedHost}
	if want := []string{"/one/two?three=four", "/one/two?three=four", "/one/two?three=four", "http://www.example.org/one?two", "www.example.org:80"}; !slices.Equal(got, want) {
		t.Errorf("the answers became %q", got)
	}
}

// shares tells whether two texts lie in the same memory.
func shares(a, b string) bool {
	from, to := uintptr(unsafe.Pointer(unsafe.StringData(a))), uintptr(unsafe.Pointer(unsafe.StringData(b)))
	return from < to+uintptr(len(b)) && to < from+uintptr(len(a))
}

// W6: what is answered is new memory: it shares none with an argument, nor with another answer, nor within one.
func TestAnswersAreNewMemory(t *testing.T) {
	const s, host, full = "/one/two?three=four", "www.example.org:80", "http://www.example.org:80/one/two?three=four"
	texts := []string{s, host, full}
	for range 2 {
		for _, c := range []struct{ method, s string }{{"GET", s}, {"GET", full}, {"CONNECT", host}} {
			x, _ := target.Parse(c.method, c.s)
			printed, _ := target.Print(x)
			texts = append(texts, x.Host, x.Path, x.Query, printed)
		}
		decoded, _ := target.Decode(s)
		cleaned, _ := target.Clean(s)
		again, _ := target.Print(authority(host))
		star, _ := target.Print(asterisk())
		texts = append(texts, decoded, cleaned, again, star)
	}
	if len(slices.DeleteFunc(slices.Clone(texts), func(s string) bool { return s == "" })) != 29 {
		t.Fatalf("told %q", texts)
	}
	for i, a := range texts {
		for _, b := range texts[:i] {
			if a != "" && b != "" && shares(a, b) {
				t.Errorf("%q shares memory with %q", a, b)
			}
		}
	}
}

// answers is all that the package answers of a text.
func answers(method, s string) string {
	x, parseErr := target.Parse(method, s)
	printed, printErr := target.Print(x)
	other, otherErr := target.Print(origin(s, s))
	decoded, decodeErr := target.Decode(s)
	cleaned, ok := target.Clean(s)
	return fmt.Sprintf("%q", []any{x, int(parseErr), printed, int(printErr), other, int(otherErr), decoded, int(decodeErr), cleaned, ok, target.Host(s)})
}

// P11.6, W2, P0.7: what is answered depends on the arguments alone: not on what was asked before, nor on who asks meanwhile.
func TestAnswersDependOnTheArgumentsAlone(t *testing.T) {
	methods := []string{"GET", "CONNECT", "OPTIONS", "get", ""}
	texts := []string{"", "*", "/", "/a", "/a?b", "/a/../b", "/..", "/%41", "/%", "/%00", "a", "a:1", "A:1", "a:", "http://a", "HTTP://A:1/b?c", "http://", "\xff", strings.Repeat("/a", 100), strings.Repeat("/a", 101)}
	ask := func() []string {
		var told []string
		for _, method := range methods {
			for _, s := range texts {
				told = append(told, answers(method, s))
			}
		}
		return told
	}
	want := ask()
	slices.Reverse(texts)
	ask()
	slices.Reverse(texts)
	var wait sync.WaitGroup
	got := make([][]string, 4)
	for i := range got {
		wait.Go(func() { got[i] = ask() })
	}
	wait.Wait()
	for i := range got {
		if !slices.Equal(got[i], want) {
			t.Errorf("asker %d is answered otherwise", i)
		}
	}
}
