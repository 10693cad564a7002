package chunk_test

import (
	"math/rand/v2"
	"regexp"
	"slices"
	"strconv"
	"strings"
	"testing"

	"usher/api"
	"usher/chunk"
)

// The model is the document's words as expressions, over texts whose bytes are written as one letter each.
const (
	blankForm  = `[\t ]*`
	tokenForm  = "[!#$%&'*+\\-.^_\x60|~0-9A-Za-z]+"
	valueForm  = `[\t -~\x{80}-\x{ff}]*`
	quotedForm = `"(?:[\t !#-\[\]-~\x{80}-\x{ff}]|\\[\t -~\x{80}-\x{ff}])*"`
	paramForm  = blankForm + `;` + blankForm + tokenForm + `(?:=(?:` + tokenForm + `|` + quotedForm + `))?`
)

var (
	sizeModel  = regexp.MustCompile(`\A([0-9A-Fa-f]{1,6})(?:` + paramForm + `){0,16}` + blankForm + `\z`)
	fieldModel = regexp.MustCompile(`\A(` + tokenForm + `):(` + valueForm + `)\z`)
)

// letters are a text's bytes, each as the letter of its number.
func letters(s string) string {
	var l []rune
	for i := range len(s) {
		l = append(l, rune(s[i]))
	}
	return string(l)
}

// bytesOf is the text of such letters.
func bytesOf(s string) string {
	var b []byte
	for _, r := range s {
		b = append(b, byte(r))
	}
	return string(b)
}

// model looks at all bytes by now anew, none of which but the last one ends the body or is refused.
func model(s string) told {
	w := told{n: len(s)}
	for {
		line, behind, ended := strings.Cut(s, "\n")
		text, ok := strings.CutSuffix(line, "\r")
		switch {
		case !ended && len(text) <= 64:
			return w
		case !ended, !ok:
			w.status = 400
			return w
		}
		m := sizeModel.FindStringSubmatch(letters(text))
		if m == nil {
			w.status = 400
			return w
		}
		size, _ := strconv.ParseInt(m[1], 16, 64)
		if len(w.body)+int(size) > 2048 {
			w.status = 413
			return w
		}
		if size == 0 {
			return trailersModel(w, behind)
		}
		came := min(int(size), len(behind))
		w.body, s = w.body+behind[:came], behind[came:]
		rest, ok := strings.CutPrefix(s, "\r\n")
		if !ok {
			if s != "" && s != "\r" {
				w.status = 400
			}
			return w
		}
		s = rest
	}
}

func trailersModel(w told, s string) told {
	sum := 0
	for {
		line, behind, ended := strings.Cut(s, "\n")
		text, ok := strings.CutSuffix(line, "\r")
		sum += len(text)
		switch {
		case !ended && (len(text) > 256 || sum > 512):
			w.status = 431
			return w
		case !ended:
			return w
		case ok && text == "":
			w.whole = true
			return w
		}
		m := fieldModel.FindStringSubmatch(letters(text))
		if !ok || m == nil {
			w.status = 400
			return w
		}
		sum += len("\r\n")
		if sum > 512 || len(w.trailers) == 8 {
			w.status = 431
			return w
		}
		w.trailers = append(w.trailers, api.Field{Name: m[1], Value: bytesOf(strings.Trim(m[2], "\t "))})
		s = behind
	}
}

// modelEnd is what is told in the end: of the bytes up to the first that ends the body or is refused, or of all.
func modelEnd(s string) told {
	for i := range len(s) {
		if w := model(s[:i+1]); w.over() {
			return w
		}
	}
	return model(s)
}

// holdModel holds what is told behind each byte, and in the end, of one piece and of some.
func holdModel(t *testing.T, s string) {
	t.Helper()
	r := chunk.New()
	var w told
	for i := range len(s) {
		take := 0
		if !w.over() {
			w, take = model(s[:i+1]), 1
		}
		if n, whole, status := r.Feed([]byte{s[i]}); n != take || whole != w.whole || status != w.status {
			t.Fatalf("byte %d of %s: %d, %v, %d, not %d, %v, %d", i, short(s), n, whole, status, take, w.whole, w.status)
		}
		holdCame(t, r, s[:i+1], w.body, w.trailers)
	}
	if s != "" {
		holdCuts(t, s, w)
	}
}

// holdCuts holds what is told in the end, of one piece, of two and of three.
func holdCuts(t *testing.T, s string, w told) {
	t.Helper()
	holdPieces(t, w, s)
	for i := 0; i <= len(s); i += 1 + len(s)/20 {
		holdPieces(t, w, s[:i], s[i:])
		k := i + (len(s)-i)/3
		holdPieces(t, w, s[:i], s[i:k], "", s[k:])
	}
}

// eachRow goes through all rows of so many of these.
func eachRow(kinds []string, n int, do func(string)) {
	var from func(string, int)
	from = func(s string, i int) {
		if i == n {
			do(s)
			return
		}
		for _, k := range kinds {
			from(s+k, i+1)
		}
	}
	from("", 0)
}

// P14.1 to P14.3: all bodies of a few pieces.
func TestAllBodies(t *testing.T) {
	eachRow([]string{"", "0", "1", "\r", "\n", "\r\n"}, 6, func(s string) { holdModel(t, s) })
	eachRow([]string{"0\r\n", "1\r\n", "x", "\r\n", "X: y\r\n", "00;a\r\n", "\n"}, 5, func(s string) { holdModel(t, s) })
}

// P14.1: all size lines of a few pieces.
func TestAllSizeLines(t *testing.T) {
	eachRow([]string{"", "3", "0", "F", " ", ";", "a", "="}, 5, func(s string) { holdModel(t, s+"\r\nabc\r\n0\r\n\r\n") })
	eachRow([]string{"", ";", "g", "=", "\"", "\\", " ", "\r"}, 5, func(s string) { holdModel(t, "1"+s+"\r\nx\r\n0"+s+"\r\n\r\n") })
}

// P14.1, P14.2: all trailers of a few pieces.
func TestAllTrailers(t *testing.T) {
	eachRow([]string{"", "X", ":", " ", "\r", "\n", "\r\n"}, 6, func(s string) { holdModel(t, "0\r\n"+s) })
}

// P14.1: each byte put in at each place of a body, taken out of it, and in its place.
func TestEachByte(t *testing.T) {
	const s = "3;a=\"b\"\r\na\r\n\r\n02 \r\nyz\r\n0\r\nX: y\r\nZ:\r\n\r\n1"
	for i := range len(s) {
		holdModel(t, s[:i])
		holdModel(t, s[:i]+s[i+1:])
		for c := range 256 {
			b := string([]byte{byte(c)})
			holdModel(t, s[:i]+b+s[i:])
			holdModel(t, s[:i]+b+s[i+1:])
		}
	}
}

// P14.1: size lines and trailers of each length about their limits, with each few bytes behind them.
func TestEachLength(t *testing.T) {
	behind := []string{"", "\r", "\n", "x"}
	for n := 60; n < 68; n++ {
		eachRow(behind, 4, func(s string) {
			holdModel(t, "3"+strings.Repeat(" ", n-1)+s)
			holdModel(t, "1\r\nx\r\n0;a="+strings.Repeat("x", n-4)+s)
		})
	}
	for n := 253; n < 260; n++ {
		eachRow(behind, 4, func(s string) {
			holdModelFrom(t, "0\r\nX:"+strings.Repeat("x", 249), told{}, strings.Repeat("x", n-251)+s)
			holdModelFrom(t, "0\r\nX:"+strings.Repeat("x", 252)+"\r\nY:"+strings.Repeat("y", 248), told{}, strings.Repeat("y", n-251)+s)
		})
	}
}

// P14.1: each number of trailers, and each length of the last one.
func TestEachNumberOfTrailers(t *testing.T) {
	for n := range 11 {
		for _, size := range []int{3, 40, 50, 54, 55, 62, 100} {
			begun := "0\r\n" + strings.Repeat("X:"+strings.Repeat("x", size-2)+"\r\n", n)
			used := modelEnd(begun)
			for k := range 8 {
				if room := 512 - n*(size+2) - 2; room > 6 && room < 254 {
					holdModelFrom(t, begun, used, "Z:"+strings.Repeat("z", room-6+k)+"\r\n\r\nx")
				}
				holdModelFrom(t, begun, used, "Z:"+strings.Repeat("z", k)+"\r\n\r\nx")
			}
		}
	}
}

// holdModelFrom holds what is told in the end of bytes behind others, of which that is told.
func holdModelFrom(t *testing.T, begun string, w told, s string) {
	t.Helper()
	for i := 0; i < len(s) && !w.over(); i++ {
		w = model(begun + s[:i+1])
	}
	holdCuts(t, begun+s, w)
}

// P14.1 to P14.3: many bodies by lot, most of them near to right ones.
func TestManyBodies(t *testing.T) {
	lot := rand.New(rand.NewPCG(14, 1))
	marks := []string{"\r", "\n", "\r\n", "0", "f", ";", "\"", ":", " ", "\t", "\x00", "\xff", "x", "0\r\n", "\r\n\r\n", ";a=b", "ffffff", strings.Repeat("y", 60)}
	for range 5000 {
		s := ""
		for lot.IntN(3) > 0 {
			s += pick(lot, []string{"", "0", "000"}) + chunkOf(lot)
		}
		s += pick(lot, []string{"0", "0", "000000", "00;x=\"y\"", "0 "}) + "\r\n"
		for lot.IntN(4) > 0 {
			s += pick(lot, []string{"X: y", "Z:", "Long: " + strings.Repeat("z", lot.IntN(260)), "a:\tb "}) + "\r\n"
		}
		s += "\r\n"
		for lot.IntN(3) == 0 {
			i := lot.IntN(len(s) + 1)
			k := min(len(s), i+lot.IntN(3))
			s = s[:i] + pick(lot, marks) + s[k:]
		}
		holdCuts(t, s, modelEnd(s))
	}
}

// chunkOf is a chunk by lot.
func chunkOf(lot *rand.Rand) string {
	n := 1 + lot.IntN(1+lot.IntN(40))
	if lot.IntN(20) == 0 {
		n = 700
	}
	data := make([]byte, n)
	for i := range data {
		data[i] = byte(lot.IntN(256))
	}
	size := strconv.FormatInt(int64(n), 16)
	if lot.IntN(2) == 0 {
		size = strings.ToUpper(size)
	}
	return size + pick(lot, []string{"", ";a", "; a=b;c", " "}) + "\r\n" + string(data) + "\r\n"
}

func pick(lot *rand.Rand, l []string) string { return l[lot.IntN(len(l))] }

// P14.3: Feed of Encode of parts by lot is whole, with all of it taken, in pieces by lot, and Body is the parts.
func TestManyParts(t *testing.T) {
	lot := rand.New(rand.NewPCG(14, 2))
	for range 3000 {
		var parts [][]byte
		var want []byte
		for lot.IntN(8) > 0 {
			p := make([]byte, lot.IntN(1+lot.IntN(400)))
			for i := range p {
				p[i] = byte(lot.IntN(256))
			}
			if len(want)+len(p) > api.MaxBody {
				break
			}
			parts, want = append(parts, p), append(want, p...)
		}
		b := chunk.Encode(parts...)
		var pieces []string
		for at := 0; at < len(b); {
			n := min(len(b)-at, lot.IntN(1+lot.IntN(300)))
			pieces = append(pieces, string(b[at:at+n]))
			at += n
		}
		holdPieces(t, told{n: len(b), whole: true, body: string(want)}, append(slices.Clip(pieces), "behind")...)
	}
}
