package target_test

import (
	"math/rand/v2"
	"net/url"
	"path"
	"regexp"
	"strconv"
	"strings"
	"testing"

	"usher/api"
)

// The document's words as expressions.
var (
	hostModel   = regexp.MustCompile(`\A[A-Za-z0-9.-]{1,100}(?::([0-9]{1,5}))?\z`)
	originModel = regexp.MustCompile(`\A(/[-A-Za-z0-9._~!$&'()*+,;=:@/%]*)(?:\?([-A-Za-z0-9._~!$&'()*+,;=:@/%?]*))?\z`)
	schemeModel = regexp.MustCompile(`(?s)\A[Hh][Tt][Tt][Pp]://([^/?]*)(.*)\z`)
)

func modelHost(s string) bool {
	m := hostModel.FindStringSubmatch(s)
	if m == nil {
		return false
	}
	port, _ := strconv.Atoi("0" + m[1])
	return port <= 65535
}

func modelDecode(s string) (string, api.Errno) {
	text, err := url.PathUnescape(s)
	if err != nil || strings.Contains(s, "%00") {
		return "", api.ErrSyntax
	}
	return text, api.OK
}

// modelClean counts how deep each part lies, and leaves the rest to the library, which knows no way above the root and no `/` at the end.
func modelClean(s string) (string, bool) {
	if !strings.HasPrefix(s, "/") {
		return "", false
	}
	depth := 0
	for _, part := range strings.Split(s, "/") {
		switch part {
		case "", ".":
		case "..":
			depth--
		default:
			depth++
		}
		if depth < 0 {
			return "", false
		}
	}
	clean := path.Clean(s)
	if clean != "/" && (strings.HasSuffix(s, "/") || strings.HasSuffix(s, "/.") || strings.HasSuffix(s, "/..")) {
		clean += "/"
	}
	return clean, true
}

func modelOrigin(s string) (api.Target, api.Errno) {
	m := originModel.FindStringSubmatch(s)
	if m == nil {
		return api.Target{}, api.ErrSyntax
	}
	decoded, err := modelDecode(m[1])
	clean, ok := modelClean(decoded)
	if err != api.OK || !ok {
		return api.Target{}, api.ErrSyntax
	}
	return origin(clean, m[2]), api.OK
}

func modelParse(method, s string) (api.Target, api.Errno) {
	if len(s) > api.MaxTarget {
		return api.Target{}, api.ErrLong
	}
	if method == "CONNECT" {
		if !modelHost(s) || !strings.Contains(s, ":") {
			return api.Target{}, api.ErrSyntax
		}
		return authority(lower(s)), api.OK
	}
	if method == "OPTIONS" && s == "*" {
		return asterisk(), api.OK
	}
	m := schemeModel.FindStringSubmatch(s)
	if m == nil {
		return modelOrigin(s)
	}
	if !strings.HasPrefix(m[2], "/") {
		m[2] = "/" + m[2]
	}
	x, err := modelOrigin(m[2])
	if err != api.OK || !modelHost(m[1]) {
		return api.Target{}, api.ErrSyntax
	}
	return absolute(lower(m[1]), x.Path, x.Query), api.OK
}

// modelWritten is a target as it is written, whatever it is.
func modelWritten(x api.Target) string {
	text := ""
	for i := range len(x.Path) {
		if isPlain(x.Path[i]) {
			text += x.Path[i : i+1]
		} else {
			text += percent(int(x.Path[i]), hexBig)
		}
	}
	if x.Query != "" {
		text += "?" + x.Query
	}
	switch x.Form {
	case api.FormAsterisk:
		return "*"
	case api.FormAuthority:
		return x.Host
	case api.FormAbsolute:
		return "http://" + x.Host + text
	}
	return text
}

// holdModels holds all calls of a text against the models, and what follows of them (P11.6).
func holdModels(t *testing.T, s string) {
	t.Helper()
	holdHost(t, modelHost(s), s)
	if want, err := modelDecode(s); err == api.OK {
		holdDecode(t, s, want)
	} else {
		holdNoDecode(t, s)
	}
	if want, ok := modelClean(s); ok {
		holdClean(t, s, want)
	} else {
		holdNoClean(t, s)
	}
	for _, method := range []string{"GET", "CONNECT", "OPTIONS"} {
		holdParseModel(t, method, s)
	}
}

func holdParseModel(t *testing.T, method, s string) {
	t.Helper()
	want, err := modelParse(method, s)
	if err != api.OK {
		holdNoParse(t, err, method, s)
		return
	}
	holdParse(t, method, s, want)
	if text := modelWritten(want); len(text) <= api.MaxTarget {
		holdPrint(t, want, text)
	} else {
		holdNoPrint(t, want)
	}
}

// eachText goes through all texts of at most so many of these pieces.
func eachText(pieces []string, most int, do func(string)) { eachFrom("", pieces, most, do) }

func eachFrom(s string, pieces []string, most int, do func(string)) {
	do(s)
	if most == 0 {
		return
	}
	for _, p := range pieces {
		eachFrom(s+p, pieces, most-1, do)
	}
}

// P11.1 to P11.6: all short texts beside the models.
func TestAllShortTexts(t *testing.T) {
	eachText([]string{"/", ".", "a", "?", "%", "2", "f", "0", ":", "*", " ", "\xff"}, 4, func(s string) { holdModels(t, s) })
	eachText([]string{"/", ".", "a", "?", "%2e", "%2F"}, 6, func(s string) { holdModels(t, "/"+s) })
	eachText([]string{"/", "..", "a"}, 9, func(s string) { holdModels(t, "/"+s) })
	eachText([]string{"%", "2", "F", "0", "g", "a"}, 6, func(s string) { holdModels(t, "/"+s) })
	eachText([]string{"A", "/", "..", ":", "8", "?", "%", "a"}, 5, func(s string) {
		holdModels(t, "http://"+s)
		holdModels(t, "HTTP://Host"+s)
	})
	eachText([]string{"a", "Z", ":", "0", "6", "5", "/"}, 6, func(s string) { holdModels(t, s) })
}

// P11.3, P11.5: texts about MaxTarget, with what is decoded, and what is written, longer or shorter than they.
func TestTextsAboutMaxTarget(t *testing.T) {
	for n := api.MaxTarget - 4; n < api.MaxTarget+3; n++ {
		for _, with := range []string{"a", "/", "%", "?", " ", "0"} {
			eachText([]string{"/", "%41", "%20", "?", ".."}, 3, func(s string) {
				for _, ahead := range []string{"/", "http://H", "http://H/", "a:"} {
					holdModels(t, ahead+s+strings.Repeat(with, n-len(ahead+s)))
					holdModels(t, ahead+strings.Repeat(with, n-len(ahead+s))+s)
				}
			})
		}
	}
}

// P11.1 to P11.4: each two bytes in a path, a query, a host, a port and alone.
func TestEachTwoBytes(t *testing.T) {
	for i := range 256 {
		for k := range 256 {
			a, b := string([]byte{byte(i)}), string([]byte{byte(k)})
			for _, s := range []string{a + b, "/" + a + b, "/a/" + a + b + "/c", "/%" + a + b, "/a?" + a + b, "http://" + a + b, "http://h:" + a + b, "h" + a + b} {
				holdModels(t, s)
			}
		}
	}
}

// P11.5: of all targets of a few words those that some text is Parsed to are Printed, and no others.
func TestAllTargetsOfFewWords(t *testing.T) {
	parsed := map[api.Target]bool{}
	keep := func(method, s string) {
		if x, err := modelParse(method, s); err == api.OK {
			parsed[x] = true
		}
	}
	eachText([]string{"/", ".", "a", "A", "?", "%20", "%3F"}, 5, func(s string) {
		for _, ahead := range []string{"", "http://a", "http://a:1"} {
			keep("GET", ahead+s)
		}
	})
	eachText([]string{"a", "A", ".", ":", "1"}, 5, func(s string) { keep("CONNECT", s) })
	keep("OPTIONS", "*")
	good := 0
	eachText([]string{"/", ".", "a", "A", " ", "?", "\x00"}, 3, func(way string) {
		for form := -1; form < 6; form++ {
			for _, host := range []string{"", "a", "A", "a:1", "a:", ":1", "A:1", ".", "*", "/", "a/"} {
				for _, query := range []string{"", "a", "?", " "} {
					if x := (api.Target{Form: form, Host: host, Path: way, Query: query}); parsed[x] {
						holdPrint(t, x, modelWritten(x))
						good++
					} else if host != "." || form != api.FormAbsolute { // of that host no text was asked
						holdNoPrint(t, x)
					}
				}
			}
		}
	})
	const all = 33*3*3 + 2 // paths, hosts or none, queries; one authority, one asterisk
	if good != all {
		t.Errorf("%d targets are good, not %d", good, all)
	}
}

// P11.1 to P11.6: many longer texts of pieces beside the models.
func TestManyTexts(t *testing.T) {
	pieces := []string{"/", "/", "/", "a", "b.c", ".", "..", "../", "/./", "%2F", "%2e", "%25", "%3f", "%C3%a4", "%41", "?", "&x=", "~", "@", ":", "Host", "-9", ":80", ":65536", "*", "%", "%00", "%4", " ", "#", "\xff", "\x00"}
	heads := []string{"", "/", "/", "/a/", "/a/b/c/", "http://", "http://a", "hTTP://A.b:80", "http://a:80/", "HTTP://a/b/c/d", "*", "a:8"}
	r := rand.New(rand.NewPCG(11, 1))
	for range 100000 {
		s := heads[r.IntN(len(heads))]
		most := len(pieces) - r.IntN(10) // now and then without those that make a text wrong
		for range r.IntN(14) {
			s += pieces[r.IntN(most)]
		}
		holdModels(t, s)
	}
}
