package head_test

import (
	"math/rand/v2"
	"reflect"
	"regexp"
	"strings"
	"testing"

	"usher/api"
	"usher/field"
	"usher/framing"
	"usher/head"
	"usher/target"
)

// The document's words as expressions.
const tokenForm = "[!#$%&'*+\\-.^_\x60|~0-9A-Za-z]+"

var (
	partsModel   = regexp.MustCompile(`(?s)\A([^ ]*) ([^ ]*) ([^ ]*)\z`)
	methodModel  = regexp.MustCompile(`\A` + tokenForm + `\z`)
	versionModel = regexp.MustCompile(`\AHTTP/([0-9])\.([0-9])\z`)
)

// model is what all lines by now say, taken as a whole.
func model(lines []string) (x told, whole bool, status int) {
	for i := range lines {
		before := x
		x, whole, status = step(x, lines[:i], lines[i])
		if status != 0 {
			return before, false, status
		}
		if whole {
			return x, true, 0
		}
	}
	return x, false, 0
}

// step is of one line behind others, none of which was the end or refused.
func step(x told, before []string, s string) (next told, whole bool, status int) {
	size := len(strings.Join(append(append([]string(nil), before...), s, ""), "\r\n"))
	begun := strings.Join(before, "") != ""
	switch {
	case len(s) > 256 || size > 1024:
		if begun {
			return x, false, 431
		}
		return x, false, 414
	case !begun && s == "" && len(before) == 4:
		return x, false, 400
	case !begun && s == "":
		return x, false, 0
	case !begun:
		x.method, x.target, x.minor, status = startOf(s)
		return x, false, status
	case s == "":
		x.how, status = framing.Of(x.minor, field.Of(x.fields...))
		return x, status == 0, status
	}
	y, err := field.Parse(s)
	switch {
	case err != api.OK:
		return x, false, 400
	case len(x.fields) == 24:
		return x, false, 431
	}
	x.fields = append(append([]api.Field(nil), x.fields...), y)
	return x, false, 0
}

func startOf(s string) (method string, x api.Target, minor, status int) {
	parts := partsModel.FindStringSubmatch(s)
	if parts == nil || !methodModel.MatchString(parts[1]) {
		return "", x, 0, 400
	}
	version := versionModel.FindStringSubmatch(parts[3])
	switch {
	case version == nil:
		return "", x, 0, 400
	case version[1] != "1":
		return "", x, 0, 505
	case len(parts[2]) > 200:
		return "", x, 0, 414
	}
	x, err := target.Parse(parts[1], parts[2])
	if err != api.OK {
		return "", api.Target{}, 0, 400
	}
	if version[2] != "0" {
		minor = 1
	}
	return parts[1], x, minor, 0
}

// holdModel holds each line's answer, and all that the head tells behind it.
func holdModel(t *testing.T, lines ...string) {
	t.Helper()
	h := head.New()
	for i, s := range lines {
		gotWhole, got := h.Line(s)
		want, whole, status := model(lines[:i+1])
		if gotWhole != whole || got != status {
			t.Fatalf("line %d of %s: %v, %d, not %v, %d", i, short(lines), gotWhole, got, whole, status)
		}
		if x := tell(h); !reflect.DeepEqual(x, want) {
			t.Fatalf("behind line %d of %s it is %s, not %s", i, short(lines), short(x), short(want))
		}
	}
}

// P13.1: all heads of up to five lines of a few kinds.
func TestAllHeads(t *testing.T) {
	kinds := []string{"", first, "GET / HTTP/1.0", "GET / HTTP/2.0", "GET  / HTTP/1.1", host, "Content-Length: 5", "Content-Length: 2049", " x"}
	eachRow(kinds, 5, func(lines []string) { holdModel(t, lines...) })
}

// eachRow goes through all rows of so many of these.
func eachRow(kinds []string, n int, do func([]string)) {
	row := make([]string, n)
	var from func(int)
	from = func(i int) {
		if i == n {
			do(row)
			return
		}
		for _, s := range kinds {
			row[i] = s
			from(i + 1)
		}
	}
	from(0)
}

// P13.1: all start lines of up to six pieces, and of all blanks between.
func TestAllStarts(t *testing.T) {
	pieces := []string{"", " ", "GET", "/", "HTTP/", "1", ".", "0"}
	eachRow(pieces, 6, func(row []string) { holdModel(t, strings.Join(row, "")) })
	eachRow([]string{"", " ", "  ", "\t"}, 4, func(row []string) {
		holdModel(t, row[0]+"GET"+row[1]+"/"+row[2]+"HTTP/1.1"+row[3], host, "")
		holdModel(t, row[0]+"CONNECT"+row[1]+"a:1"+row[2]+"HTTP/2.0"+row[3], host, "")
	})
}

// P13.1: all versions of three bytes and less.
func TestAllVersions(t *testing.T) {
	eachRow([]string{"", "0", "1", "2", "9", ".", ",", "a", "/", ":"}, 3, func(row []string) { holdModel(t, "GET / HTTP/"+strings.Join(row, ""), host, "") })
}

// P13.1: all start lines of parts of all kinds.
func TestAllParts(t *testing.T) {
	methods := []string{"", "GET", "get", "CONNECT", "OPTIONS", "G(T", "\xff", strings.Repeat("M", 45), strings.Repeat("M", 46), strings.Repeat("M", 242), strings.Repeat("M", 245), strings.Repeat("M", 246)}
	targets := []string{"", "/", "*", "a:1", "/%2e", "/..", "http://A", "/\xff", "/" + strings.Repeat("a", 199), "/" + strings.Repeat("a", 200), strings.Repeat("a", 200), strings.Repeat("a", 201)}
	versions := []string{"", "HTTP/0.9", "HTTP/1.0", "HTTP/1.1", "HTTP/1.2", "HTTP/2.0", "http/1.1", "http/2.0", "HTTP/1", "HTTP/1.1 ", "x HTTP/1.1"}
	for _, m := range methods {
		for _, s := range targets {
			for _, v := range versions {
				holdModel(t, "", m+" "+s+" "+v, host, "", "x")
			}
		}
	}
}

// P13.1: each byte put in at each place of a head, taken out of it, and in its place.
func TestEachByte(t *testing.T) {
	lines := []string{"", "GET /a?b HTTP/1.1", "Host: a", "X:", "Content-Length: 5", ""}
	for k, s := range lines {
		for i := range len(s) + 1 {
			other := append([]string(nil), lines...)
			for c := range 256 {
				other[k] = s[:i] + string([]byte{byte(c)}) + s[i:]
				holdModel(t, other...)
				if i < len(s) {
					other[k] = s[:i] + string([]byte{byte(c)}) + s[i+1:]
					holdModel(t, other...)
				}
			}
			if i < len(s) {
				other[k] = s[:i] + s[i+1:]
				holdModel(t, other...)
			}
		}
	}
}

// P13.1: heads of each length of their last field and of some number of fields.
func TestEachLength(t *testing.T) {
	for fields := range api.MaxFields + 2 {
		lines := []string{"", first, host}
		for range fields {
			lines = append(lines, filled(36))
		}
		for n := 3; n < 260; n++ {
			holdModelEnd(t, append(lines, filled(n), "", "x")...)
		}
	}
}

// holdModelEnd holds the answer of each of the last three lines alone.
func holdModelEnd(t *testing.T, lines ...string) {
	t.Helper()
	h := head.New()
	for i, s := range lines {
		gotWhole, got := h.Line(s)
		if i < len(lines)-3 {
			continue
		}
		if want, whole, status := model(lines[:i+1]); gotWhole != whole || got != status || !reflect.DeepEqual(tell(h), want) {
			t.Fatalf("line %d of %s: %v, %d, %s, not %v, %d, %s", i, short(lines), gotWhole, got, short(tell(h)), whole, status, short(want))
		}
	}
}

// P13.1 to P13.3: many heads by lot, most of them near to right ones.
func TestManyHeads(t *testing.T) {
	lot := rand.New(rand.NewPCG(13, 1))
	starts := []string{first, "GET / HTTP/1.0", "POST /a/../b?c HTTP/1.9", "OPTIONS * HTTP/1.1", "CONNECT A:1 HTTP/1.1", "PUT HTTP://A/%41 HTTP/1.1"}
	fields := []string{"X: y", "Content-Length: 5", "content-length: 5", "Transfer-Encoding: chunked", "Transfer-Encoding: gzip", "Connection: close", "connection: keep-alive", "Expect: 100-continue", "Expect: x", "Content-Length: 2049", "A:\t b "}
	marks := []string{" ", "\t", ":", ",", "/", "%", "?", "\x00", "\xff", "x", "2", "HTTP/", "http"}
	for range 20000 {
		var lines []string
		for lot.IntN(3) == 0 {
			lines = append(lines, "")
		}
		lines = append(lines, pick(lot, starts))
		if lot.IntN(8) > 0 {
			lines = append(lines, host)
		}
		for most := lot.IntN(lot.IntN(30) + 1); most > 0; most-- {
			lines = append(lines, pick(lot, fields))
			if lot.IntN(6) == 0 {
				lines = append(lines, filled(3+lot.IntN(256)))
			}
		}
		for lot.IntN(4) == 0 {
			k := lot.IntN(len(lines))
			i := lot.IntN(len(lines[k]) + 1)
			lines[k] = lines[k][:i] + pick(lot, marks) + lines[k][i:]
		}
		holdModel(t, append(lines, "", pick(lot, fields))...)
	}
}

func pick(lot *rand.Rand, l []string) string { return l[lot.IntN(len(l))] }
