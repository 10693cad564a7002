package framing_test

import (
	"math/rand/v2"
	"regexp"
	"slices"
	"strconv"
	"strings"
	"testing"

	"usher/api"
	"usher/framing"
)

// The document's words as expressions. A list's values are one text, with commas between.
const wordForm = "[!#$%&'*+\\-.^_\x60|~0-9A-Za-z]+"

var (
	hostModel   = regexp.MustCompile(`\A(?:[A-Za-z0-9.-]{1,100}(?::([0-9]{1,5}))?)?\z`)
	listModel   = regexp.MustCompile(`\A(?:[\t ]*(?:` + wordForm + `)?[\t ]*(?:,|\z))*\z`)
	wordModel   = regexp.MustCompile(wordForm)
	numberModel = regexp.MustCompile(`\A0*([0-9]*)\z`)
	expectModel = regexp.MustCompile(`\A100-[Cc][Oo][Nn][Tt][Ii][Nn][Uu][Ee]\z`)
)

// modelHead is the values of each name, in small letters.
type modelHead map[string][]string

func modelOf(l []api.Field) modelHead {
	h := modelHead{}
	for _, x := range l {
		name := strings.ToLower(x.Name)
		h[name] = append(h[name], x.Value)
	}
	return h
}

// words is a list's words, each with a comma behind it; false: it is no list.
func (h modelHead) words(name string) (string, bool) {
	text := strings.Join(h[name], ",")
	if !listModel.MatchString(text) {
		return "", false
	}
	words := ""
	for _, w := range wordModel.FindAllString(text, -1) {
		words += strings.ToLower(w) + ","
	}
	return words, true
}

func (h modelHead) host(minor int) bool {
	values := h["host"]
	if len(values) == 0 {
		return minor == 0
	}
	m := hostModel.FindStringSubmatch(values[0])
	if m == nil || len(values) > 1 {
		return false
	}
	port, _ := strconv.Atoi("0" + m[1])
	return port < 1<<16
}

func (h modelHead) body(minor int) (kind, length, status int) {
	lengths, codings := h["content-length"], h["transfer-encoding"]
	switch {
	case codings != nil && (lengths != nil || minor == 0):
		return 0, 0, 400
	case codings != nil:
		return h.codings()
	case lengths != nil:
		return h.lengths()
	}
	return api.BodyNone, 0, 0
}

func (h modelHead) codings() (kind, length, status int) {
	words, _ := h.words("transfer-encoding")
	ahead, last := strings.CutSuffix(","+words, ",chunked,")
	switch {
	case !last || strings.Contains(ahead+",", ",chunked,"):
		return 0, 0, 400
	case ahead != "":
		return 0, 0, 501
	}
	return api.BodyChunked, 0, 0
}

// lengths compares numbers as texts without noughts ahead.
func (h modelHead) lengths() (kind, length, status int) {
	words, _ := h.words("content-length")
	if words == "" {
		return 0, 0, 400
	}
	seen := map[string]int{}
	for w := range strings.SplitSeq(strings.TrimSuffix(words, ","), ",") {
		m := numberModel.FindStringSubmatch(w)
		if m == nil || len(w) > 15 {
			return 0, 0, 400
		}
		seen[m[1]]++
	}
	if len(seen) > 1 {
		return 0, 0, 400
	}
	for digits := range seen {
		length, _ = strconv.Atoi("0" + digits)
	}
	if length > 2048 {
		return 0, 0, 413
	}
	return api.BodyLength, length, 0
}

func model(minor int, l []api.Field) (framing.How, int) {
	minor = min(1, max(0, minor))
	h := modelOf(l)
	if !h.host(minor) {
		return framing.How{}, 400
	}
	kind, length, status := h.body(minor)
	if status != 0 {
		return framing.How{}, status
	}
	words, ok := h.words("connection")
	if !ok {
		return framing.How{}, 400
	}
	shut, stay := strings.Contains(","+words, ",close,"), strings.Contains(","+words, ",keep-alive,")
	how := framing.How{Kind: kind, Length: length, Close: shut || minor == 0 && !stay}
	if minor == 1 && h["expect"] != nil {
		if !expectModel.MatchString(strings.Join(h["expect"], ", ")) {
			return framing.How{}, 417
		}
		how.Expect = kind == api.BodyChunked || kind == api.BodyLength && length != 0
	}
	return how, 0
}

func holdModel(t *testing.T, minor int, l []api.Field) {
	t.Helper()
	how, status := model(minor, l)
	holdRow(t, minor, l, how, status)
}

// some is a few rows of fields of one kind.
func some(t *testing.T, rows ...string) [][]api.Field {
	l := [][]api.Field{nil}
	for _, r := range rows {
		l = append(l, row(t, strings.Split(r, "|")...))
	}
	return l
}

// P12.1: all heads of a few fields of each kind, in one order and the other.
func TestAllHeads(t *testing.T) {
	hosts := some(t, "Host: a", "hOST:", "Host: a:80", "Host: a b", "host: a|HOST: a")
	codings := some(t, "Transfer-Encoding: Chunked", "transfer-encoding: gzip, chunked", "TRANSFER-ENCODING:", "Transfer-Encoding: gzip|Transfer-Encoding: chunked", "Transfer-Encoding: chunked, chunked", "Transfer-Encoding: a b")
	lengths := some(t, "Content-Length: 0", "content-length: 5", "CONTENT-LENGTH: 2048", "Content-Length: 2049", "Content-Length: 5|Content-Length: 05", "Content-Length: 5, 6", "Content-Length: ,", "Content-Length: x")
	connections := some(t, "Connection: Close", "connection: keep-alive", "CONNECTION: close|Connection: Keep-Alive", "Connection:", "Connection: x", "Connection: a b")
	expects := some(t, "Expect: 100-Continue", "expect: x", "EXPECT: 100-continue|Expect: 100-continue", "Expect:")
	for _, h := range hosts {
		for _, c := range codings {
			for _, l := range lengths {
				for _, n := range connections {
					for _, e := range expects {
						for minor := range 2 {
							holdModel(t, minor, slices.Concat(h, c, l, n, e))
							holdModel(t, minor, slices.Concat(e, n, l, c, h))
						}
					}
				}
			}
		}
	}
}

// P12.1: each byte that a value may have, beside each of the words, ahead, behind and within.
func TestEachByte(t *testing.T) {
	names := []string{"Host", "Transfer-Encoding", "Content-Length", "Connection", "Expect"}
	words := []string{"a:80", "chunked", "5", "close", "keep-alive", "100-continue", ""}
	for i := range 256 {
		if i < 0x20 && i != '\t' || i == 0x7f {
			continue
		}
		c := string([]byte{byte(i)})
		for _, name := range names {
			for _, word := range words {
				half := len(word) / 2
				for _, value := range []string{c + word, word + c, word[:half] + c + word[half:], c + c + word, word + c + c, c + word + c, word + c + word, word + c + "x", "x" + c + word} {
					l := []api.Field{{Name: name, Value: strings.Trim(value, "\t ")}}
					if name != "Host" {
						l = append(l, api.Field{Name: "Host"})
					}
					holdModel(t, 0, l)
					holdModel(t, 1, l)
				}
			}
		}
	}
}

// P12.1: each name of letters of any size, and with one byte otherwise.
func TestEachName(t *testing.T) {
	for name, value := range map[string]string{"Host": "/", "Transfer-Encoding": "chunked", "Content-Length": "5", "Connection": "close", "Expect": "x"} {
		for i := range name {
			for c := range 128 {
				other := name[:i] + string(rune(c)) + name[i+1:]
				if !tokenModel.MatchString(other) {
					continue
				}
				l := []api.Field{{Name: "Host", Value: "b"}, {Name: other, Value: value}}
				holdModel(t, 0, l)
				holdModel(t, 1, l)
			}
		}
	}
}

var tokenModel = regexp.MustCompile(`\A` + wordForm + `\z`)

// P12.1, Content-Length: all lists of two and three of a few numbers and others, in one field and in several.
func TestAllLengths(t *testing.T) {
	numbers := []string{"", "0", "00", "5", "05", "50", "2048", "02048", "2049", "999999999999999", "1000000000000000", "0000000000000005", "x", "5 5"}
	for _, a := range numbers {
		for _, b := range numbers {
			holdBoth(t, lengthName, a, b)
			for _, c := range numbers {
				holdBoth(t, lengthName, a, b, c)
			}
		}
	}
}

// P12.1, Transfer-Encoding and Connection: all lists of up to four words.
func TestAllWords(t *testing.T) {
	for name, words := range map[string][]string{codingName: {"", "chunked", "CHUNKED", "gzip", "x-chunked", "a b"}, "Connection": {"", "close", "Close", "keep-alive", "Keep-Alive", "closed", "a b"}} {
		for _, a := range words {
			holdBoth(t, name, a)
			for _, b := range words {
				holdBoth(t, name, a, b)
				for _, c := range words {
					holdBoth(t, name, a, b, c)
					for _, d := range words {
						holdBoth(t, name, a, b, c, d)
					}
				}
			}
		}
	}
}

// holdBoth holds values in one field and in several, with both minors.
func holdBoth(t *testing.T, name string, values ...string) {
	t.Helper()
	one := row(t, host, name+": "+strings.Join(values, ", "))
	several := row(t, host)
	for _, v := range values {
		several = append(several, api.Field{Name: name, Value: v})
	}
	for minor := range 2 {
		holdModel(t, minor, one)
		holdModel(t, minor, several)
		how, status := framing.Of(minor, laid(t, one))
		holdRow(t, minor, several, how, status)
	}
}

// P12.1, Content-Length: numbers about each limit, with as many noughts ahead as there may be and more.
func TestNumbersOfDigits(t *testing.T) {
	for digits := 1; digits < 19; digits++ {
		for _, n := range []int{0, 1, 9, 10, 255, 256, 999, 2047, 2048, 2049, 4095, 4096, 1<<16 - 1, 1 << 16, 1<<31 - 1, 1 << 31, 1<<32 - 1, 1 << 32, 1<<32 + 5, 1 << 40, 1<<49 + 7, 999999999999999, 1000000000000000, 1<<63 - 1} {
			text := strconv.Itoa(n)
			padded := strings.Repeat("0", max(0, digits-len(text))) + text
			for minor := range 2 {
				holdModel(t, minor, row(t, host, lengthName+": "+padded))
				holdModel(t, minor, row(t, host, lengthName+": "+padded+", "+text))
				holdModel(t, minor, row(t, host, lengthName+": "+text, lengthName+": "+padded))
			}
		}
	}
}

// P12.1: many heads by lot, most of them near to right ones.
func TestManyHeads(t *testing.T) {
	lot := rand.New(rand.NewPCG(12, 1))
	names := []string{"Host", "Transfer-Encoding", "Content-Length", "Connection", "Expect", "Accept"}
	likely := [][]string{{"a", "", "a:80"}, {"chunked", "gzip", "Chunked"}, {"5", "05", "0", "2048"}, {"close", "keep-alive", "x"}, {"100-continue", "100-Continue"}, {"x"}}
	marks := []string{",", " ", ", ", "\t", ";", "/", "5", "x", "\xe4", "2049", "chunked", "close", "100-continue"}
	for range 60000 {
		var l []api.Field
		for range lot.IntN(8) {
			k := lot.IntN(len(names))
			value := pick(lot, likely[k])
			for lot.IntN(4) == 0 {
				value += pick(lot, marks)
			}
			if lot.IntN(6) == 0 {
				value += "," + pick(lot, likely[k])
			}
			l = append(l, api.Field{Name: anySize(lot, names[k]), Value: strings.Trim(value, "\t ")})
		}
		if lot.IntN(8) > 0 {
			l = slices.DeleteFunc(l, func(x api.Field) bool { return strings.EqualFold(x.Name, "host") })
			l = slices.Insert(l, lot.IntN(len(l)+1), api.Field{Name: "Host", Value: "a"})
		}
		holdModel(t, lot.IntN(5)-1, l)
	}
}

func pick(lot *rand.Rand, l []string) string { return l[lot.IntN(len(l))] }

// anySize is a name in letters of sizes by lot.
func anySize(lot *rand.Rand, name string) string {
	b := []byte(name)
	for i, c := range b {
		if lot.IntN(4) == 0 && c != '-' {
			b[i] = c ^ 0x20
		}
	}
	return string(b)
}
