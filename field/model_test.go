package field_test

import (
	"math/rand/v2"
	"regexp"
	"slices"
	"strings"
	"testing"

	"usher/api"
	"usher/field"
)

// lineModel is the document's words as an expression, over texts whose bytes are written as one letter each.
var lineModel = regexp.MustCompile("\\A([!#$%&'*+\\-.^_\x60|~0-9A-Za-z]+):" + `[\t ]*(|[!-~\x{80}-\x{ff}]|[!-~\x{80}-\x{ff}][\t -~\x{80}-\x{ff}]*[!-~\x{80}-\x{ff}])[\t ]*\z`)

// letters are a text's bytes, each as the letter of its number.
func letters(s string) string {
	var l []rune
	for i := range len(s) {
		l = append(l, rune(s[i]))
	}
	return string(l)
}

// bytesOf is the text of such letters.
func bytesOf(s string) string {
	var b []byte
	for _, r := range s {
		b = append(b, byte(r))
	}
	return string(b)
}

func modelParse(line string) (api.Field, api.Errno) {
	if len(line) > api.MaxLine {
		return api.Field{}, api.ErrLong
	}
	m := lineModel.FindStringSubmatch(letters(line))
	if m == nil {
		return api.Field{}, api.ErrSyntax
	}
	return api.Field{Name: bytesOf(m[1]), Value: bytesOf(m[2])}, api.OK
}

func holdParseModel(t *testing.T, line string) {
	t.Helper()
	want, wantErr := modelParse(line)
	if got, err := field.Parse(line); got != want || err != wantErr {
		t.Errorf("Parse(%s) = %s, %v, not %s, %v", short(line), short(got), err, short(want), wantErr)
	}
}

// isField tells it by a line: each field is one, with nothing about its value.
func isField(x api.Field) bool {
	m := lineModel.FindStringSubmatch(letters(x.Name + ":" + x.Value))
	return m != nil && bytesOf(m[1]) == x.Name && bytesOf(m[2]) == x.Value
}

// eachText goes through all texts of at most so many of these pieces.
func eachText(pieces []string, most int, do func(string)) { eachFrom("", pieces, most, do) }

func eachFrom(s string, pieces []string, most int, do func(string)) {
	do(s)
	if most == 0 {
		return
	}
	for _, p := range pieces {
		eachFrom(s+p, pieces, most-1, do)
	}
}

// P10.1: all short texts, as a line, behind a name, and about the bound of a line.
func TestParseOfAllShortTexts(t *testing.T) {
	eachText([]string{"a", "B", ":", " ", "\t", ",", "\n", "\x00", "\xff"}, 6, func(s string) { holdParseModel(t, s) })
	eachText([]string{"a", ":", " ", "\t", "\x7f", "\x80"}, 5, func(s string) {
		holdParseModel(t, "Name:"+s)
		holdParseModel(t, "Name: "+s+" ")
		holdParseModel(t, s+"Name:value")
	})
	for n := api.MaxLine - 4; n <= api.MaxLine+1; n++ {
		for _, with := range []string{"a", " ", ":"} {
			eachText([]string{"a", ":", " ", "\n"}, 3, func(s string) {
				holdParseModel(t, s+strings.Repeat(with, n-len(s)))
				holdParseModel(t, "a:"+strings.Repeat(with, n-2-len(s))+s)
			})
		}
	}
}

// P10.1: each two bytes, with a `:` and blanks ahead of them, between and behind.
func TestParseOfEachTwoBytes(t *testing.T) {
	for i := range 256 {
		for k := range 256 {
			a, b := string([]byte{byte(i)}), string([]byte{byte(k)})
			for _, line := range []string{a + b, a + ":" + b, a + b + ":", "n:" + a + b, "n:" + a + b + " ", "n: " + a + " " + b} {
				holdParseModel(t, line)
			}
		}
	}
}

// pair is Fields beside a plain model of them: a row, and names by their small letters.
type pair struct {
	t *testing.T
	f *field.Fields
	l []api.Field
}

func newPair(t *testing.T, l ...api.Field) *pair {
	p := &pair{t: t, f: field.Of(l...)}
	p.lay(l)
	p.hold()
	return p
}

// lay is Add of the model.
func (p *pair) lay(l []api.Field) (int, api.Errno) {
	for n, x := range l {
		switch {
		case !isField(x):
			return n, api.ErrSyntax
		case len(p.l) >= api.MaxFields:
			return n, api.ErrFull
		}
		p.l = append(p.l, x)
	}
	return len(l), api.OK
}

func (p *pair) add(l ...api.Field) {
	p.t.Helper()
	n, err := p.lay(l)
	holdAdd(p.t, p.f, n, err, l...)
	p.hold()
}

func (p *pair) drop(names ...string) {
	p.t.Helper()
	var left []api.Field
	for _, x := range p.l {
		if !slices.ContainsFunc(names, func(n string) bool { return lower(n) == lower(x.Name) }) {
			left = append(left, x)
		}
	}
	holdDrop(p.t, p.f, len(p.l)-len(left), names...)
	p.l = left
	p.hold()
}

// hold asks all, of each name that these tests lay, drop or ask for.
func (p *pair) hold() {
	p.t.Helper()
	if got := p.f.All(); !slices.Equal(got, p.l) || p.f.Len() != len(p.l) {
		p.t.Errorf("All = %s, Len = %d, not %s", short(got), p.f.Len(), short(p.l))
	}
	for _, name := range []string{"a", "A", "ab", "b", "C", ""} {
		holdName(p.t, p.f, name, valuesOf(p.l, name)...)
	}
}

// steps are calls, each with the pair alone.
func steps() []func(*pair) {
	many := slices.Repeat(row("b", "many"), 21)
	return []func(*pair){
		func(p *pair) { p.add() },
		func(p *pair) { p.add(row("a", "")...) },
		func(p *pair) { p.add(row("A", "1", "ab", "2", "B", "3")...) },
		func(p *pair) { p.add(row("b", "4", "a b", "5", "a", "6")...) },
		func(p *pair) { p.add(row("a", "7", "c", "8 ", "b", "9")...) },
		func(p *pair) { p.add(many...) },
		func(p *pair) { p.add(p.f.All()...) },
		func(p *pair) { p.drop() },
		func(p *pair) { p.drop("A") },
		func(p *pair) { p.drop("b", "none", "B") },
		func(p *pair) { p.drop("AB", "a", "") },
	}
}

// P10.2, P10.3: all rows of four calls beside the model.
func TestAllRowsOfFourCalls(t *testing.T) {
	all := steps()
	for i := range len(all) * len(all) * len(all) * len(all) {
		p := newPair(t)
		for range 4 {
			all[i%len(all)](p)
			i /= len(all)
		}
		if t.Failed() {
			return
		}
	}
}

// someFields are up to n of few names and values, a wrong one now and then.
func someFields(r *rand.Rand, n int) []api.Field {
	names := []string{"a", "A", "ab", "Ab", "b", "C", "c", "a", "B", "AB", "a", "b", "c", "a b", ""}
	values := []string{"", "1", "2", "3", "x y", "x, y", "\xff", ":", "1", "2", "3", "4", "5", " 1", "1\n"}
	var l []api.Field
	for range r.IntN(n + 1) {
		l = append(l, api.Field{Name: names[r.IntN(len(names))], Value: values[r.IntN(len(values))]})
	}
	return l
}

// P10.2, P10.3: many calls in a row beside the model, from each Of on.
func TestManyCalls(t *testing.T) {
	r := rand.New(rand.NewPCG(10, 1))
	for range 300 {
		p := newPair(t, someFields(r, 30)...)
		for range 60 {
			if r.IntN(3) > 0 {
				p.add(someFields(r, 6)...)
				continue
			}
			var names []string
			for _, x := range someFields(r, 2) {
				names = append(names, x.Name)
			}
			p.drop(names...)
		}
		if t.Failed() {
			return
		}
	}
}

// P10.1, P10.2: what Parse answers is a field, and the model's words for both are the same.
func TestParsedFieldsAreFields(t *testing.T) {
	eachText([]string{"a", ":", " ", "\t", "\n", "\xe4"}, 6, func(line string) {
		x, err := field.Parse(line)
		p := newPair(t)
		p.add(x)
		if p.f.Len() == 1 != (err == api.OK) {
			t.Errorf("Parse(%q) = %q, %v; Add laid %d", line, x, err, p.f.Len())
		}
	})
}
