package field_test

import (
	"fmt"
	"slices"
	"strings"
	"sync"
	"testing"
	"unsafe"

	"usher/api"
	"usher/field"
)

const (
	bigLetters   = "ABCDEFGHIJKLMNOPQRSTUVWXYZ"
	smallLetters = "abcdefghijklmnopqrstuvwxyz"
	tokenBytes   = bigLetters + smallLetters + "0123456789" + "!#$%&'*+-.^_\x60|~"
	long         = 1 << 16
)

func isTokenByte(c byte) bool { return strings.IndexByte(tokenBytes, c) >= 0 }

func isBlank(c byte) bool { return c == 9 || c == 0x20 }

func isValueByte(c byte) bool { return c == 9 || c >= 0x20 && c <= 0x7e || c >= 0x80 }

// lower is the small letter of one of A to Z; all else is as it is.
func lower(s string) string {
	for i := range len(bigLetters) {
		s = strings.ReplaceAll(s, bigLetters[i:i+1], smallLetters[i:i+1])
	}
	return s
}

// upper is the capital of one of a to z; all else is as it is.
func upper(s string) string {
	for i := range len(smallLetters) {
		s = strings.ReplaceAll(s, smallLetters[i:i+1], bigLetters[i:i+1])
	}
	return s
}

// short is a text that can be shown.
func short(v any) string { return fmt.Sprintf("%.200q", v) }

// row takes names and values by turns.
func row(l ...string) []api.Field {
	fields := []api.Field{}
	for i := 0; i < len(l); i += 2 {
		fields = append(fields, api.Field{Name: l[i], Value: l[i+1]})
	}
	return fields
}

// numbered are n fields with names of their own.
func numbered(n int) []api.Field {
	fields := []api.Field{}
	for i := range n {
		fields = append(fields, api.Field{Name: fmt.Sprintf("name-%d", i), Value: fmt.Sprintf("value %d", i)})
	}
	return fields
}

func namesOf(l []api.Field) []string {
	var names []string
	for _, x := range l {
		names = append(names, x.Name)
	}
	return names
}

func holdParse(t *testing.T, line, name, value string) {
	t.Helper()
	if got, err := field.Parse(line); got != (api.Field{Name: name, Value: value}) || err != api.OK {
		t.Errorf("Parse(%s) = %s, %v, not %s with %s", short(line), short(got), err, short(name), short(value))
	}
}

func holdNoParse(t *testing.T, want api.Errno, line string) {
	t.Helper()
	if got, err := field.Parse(line); got != (api.Field{}) || err != want {
		t.Errorf("Parse(%s) = %s, %v, not nothing, %v", short(line), short(got), err, want)
	}
}

func holdAdd(t *testing.T, f *field.Fields, want int, wantErr api.Errno, l ...api.Field) {
	t.Helper()
	if n, err := f.Add(l...); n != want || err != wantErr {
		t.Errorf("Add(%s) = %d, %v, not %d, %v", short(l), n, err, want, wantErr)
	}
}

func holdDrop(t *testing.T, f *field.Fields, want int, names ...string) {
	t.Helper()
	if n := f.Drop(names...); n != want {
		t.Errorf("Drop(%s) = %d, not %d", short(names), n, want)
	}
}

// holdName asks all that may be asked of a name.
func holdName(t *testing.T, f *field.Fields, name string, want ...string) {
	t.Helper()
	if got := f.Values(name); !slices.Equal(got, want) {
		t.Errorf("Values(%s) = %s, not %s", short(name), short(got), short(want))
	}
	joined := ""
	for i, v := range want {
		if i > 0 {
			joined += ", "
		}
		joined += v
	}
	if got := f.Get(name); got != joined {
		t.Errorf("Get(%s) = %s, not %s", short(name), short(got), short(joined))
	}
	if got := f.Has(name); got != (len(want) > 0) {
		t.Errorf("Has(%s) = %v", short(name), got)
	}
}

// valuesOf is what a row has of a name, by the small letters of both.
func valuesOf(l []api.Field, name string) []string {
	var values []string
	for _, x := range l {
		if lower(x.Name) == lower(name) {
			values = append(values, x.Value)
		}
	}
	return values
}

// strangers are names that no field of these tests has.
func strangers() []string {
	return []string{"", " ", ":", ",", "none", "nam", "name-", "name-1 ", " name-1", "name-1:", "\x00", "\xff", "\u212a", "a,b", strings.Repeat("z", long)}
}

// holdAll asks all that may be asked.
func holdAll(t *testing.T, f *field.Fields, want ...api.Field) {
	t.Helper()
	if got := f.All(); !slices.Equal(got, want) {
		t.Errorf("All = %s, not %s", short(got), short(want))
	}
	if got := f.Len(); got != len(want) {
		t.Errorf("Len = %d, not %d", got, len(want))
	}
	for _, x := range want {
		holdName(t, f, x.Name, valuesOf(want, x.Name)...)
		holdName(t, f, upper(x.Name), valuesOf(want, x.Name)...)
		holdName(t, f, lower(x.Name), valuesOf(want, x.Name)...)
	}
	for _, name := range strangers() {
		holdName(t, f, name)
	}
}

// newFields are those that a row is, which is good as a whole.
func newFields(t *testing.T, l ...api.Field) *field.Fields {
	t.Helper()
	f := field.Of(l...)
	if f == nil {
		t.Fatalf("Of(%s) = nil", short(l))
	}
	holdAll(t, f, l...)
	return f
}

// The chapter's examples.
func TestExamples(t *testing.T) {
	holdParse(t, "Host:  a ", "Host", "a")
	holdNoParse(t, api.ErrSyntax, "a b: c")
}

// P10.1: the name ahead of the first `:`, the value behind it without blanks about it, both in the size that they have.
func TestParse(t *testing.T) {
	for _, c := range []struct{ line, name, value string }{
		{"a:b", "a", "b"},
		{"a: b", "a", "b"},
		{"a:b ", "a", "b"},
		{"a:\tb", "a", "b"},
		{"a:b\t", "a", "b"},
		{"a:  b  ", "a", "b"},
		{"a: \t \tb\t \t ", "a", "b"},
		{"a: b c\td  e ", "a", "b c\td  e"},
		{"a:", "a", ""},
		{"a: ", "a", ""},
		{"a:\t", "a", ""},
		{"a: \t  \t", "a", ""},
		{"a::", "a", ":"},
		{"a:: ", "a", ":"},
		{"a: : ", "a", ":"},
		{"a:b:c", "a", "b:c"},
		{"a: b: c :", "a", "b: c :"},
		{"a:::b:", "a", "::b:"},
		{"Host: www.example.org:8080", "Host", "www.example.org:8080"},
		{"Content-LENGTH: 5", "Content-LENGTH", "5"},
		{"x-y:\"a; b\", (C) {d} <e> [f] \\ / ? = @", "x-y", "\"a; b\", (C) {d} <e> [f] \\ / ? = @"},
		{"a: \u00a0b\u2003 ", "a", "\u00a0b\u2003"}, // blanks, but not these two
		{"a: \xff\x80 ", "a", "\xff\x80"},
		{tokenBytes + ":" + tokenBytes, tokenBytes, tokenBytes},
		{"0:0", "0", "0"},
		{"a:a", "a", "a"},
	} {
		holdParse(t, c.line, c.name, c.value)
	}
}

// P10.1: what is no field, and has no more than MaxLine bytes.
func TestParseOfNoField(t *testing.T) {
	for _, line := range []string{
		"", " ", "\t", "a", "Host", "a b", "a=b", "a;b", "abc ", "\x00", "\xff", "\n", strings.Repeat("a", api.MaxLine), // no `:`
		":", "::", ": ", ":a", " :a", "\t:a", " : ", ": a: b", ":\x00", // no name
		" a:b", "\ta:b", "a :b", "a\t:b", "a b:c", "a\tb:c", " a :b", "  :", "a  b:c", " :a:b", // a blank in it
		"(a):b", "a,b:c", "a/b:c", "a;b:c", "a=b:c", "a@b:c", "[a]:b", "{a}:b", "<a>:b", "\"a\":b", "a\\b:c", "a?:b",
		"a\n:b", "\na:b", "a\x00:b", "a\x7f:b", "a\x80:b", "\u00e4:b", "\xff:b", "\u2003a:b",
		"a:\n", "a:\r", "a:b\r", "a:b\n", "a:b\r\n", "a:\nb", "a:b\r\nc:d", "a:\x00", "a:b\x00", "a:\x7f", "a:b\x7fc", "a:\v", "a:\f", "a: \x1f ",
		"a:\x1b[0m", "a:b \n ", "a b:\x00",
	} {
		holdNoParse(t, api.ErrSyntax, line)
	}
}

// P10.1: MaxLine bytes may be, blanks among them; ErrLong goes ahead of all that is wrong besides.
func TestParseOfLongLines(t *testing.T) {
	fill := func(ahead, with, behind string, n int) string {
		return ahead + strings.Repeat(with, n-len(ahead)-len(behind)) + behind
	}
	holdParse(t, fill("a:", "b", "", api.MaxLine), "a", strings.Repeat("b", api.MaxLine-2))
	holdParse(t, fill("a:", " ", "", api.MaxLine), "a", "")
	holdParse(t, fill("a:", "\t", "b", api.MaxLine), "a", "b")
	holdParse(t, fill("a:b", " ", "", api.MaxLine), "a", "b")
	holdParse(t, fill("", "a", ":", api.MaxLine), strings.Repeat("a", api.MaxLine-1), "")
	holdParse(t, fill("", "a", ":b", api.MaxLine), strings.Repeat("a", api.MaxLine-2), "b")
	holdParse(t, fill("a:", "\xc3", "", api.MaxLine-1), "a", strings.Repeat("\xc3", api.MaxLine-3))
	for _, form := range []struct{ ahead, with, behind string }{
		{"a:", "b", ""}, {"a:", " ", ""}, {"a: ", " ", "b"}, {"a:b", " ", ""}, {"", "a", ":b"}, {"", "a", ":"},
		{"", "a", ""}, {"", " ", ""}, {"", ":", ""}, {":", "b", ""}, {"a b:", "c", ""}, {" ", "a", ":b"}, {"a:", "\x00", ""}, {"", "\n", ""}, {"", "\xff", ""}, {"a:b", "\r\n", "  "},
	} {
		for _, n := range []int{api.MaxLine + 1, api.MaxLine + 2, 2 * api.MaxLine, 1<<16 + 1, 1<<16 + 8} {
			line := fill(form.ahead, form.with, form.behind, n)
			if len(line) > api.MaxLine {
				holdNoParse(t, api.ErrLong, line)
			}
		}
	}
	for _, form := range []struct{ ahead, with, behind string }{
		{"", "a", ""}, {":", "b", ""}, {"a b:", "c", ""}, {" ", "a", ":b"}, {"a:", "\x00", ""}, {"a:", "b", "\n"},
	} {
		holdNoParse(t, api.ErrSyntax, fill(form.ahead, form.with, form.behind, api.MaxLine))
	}
}

// P10.1: each byte, wherever it may stand in a name.
func TestParseOfEachByteInAName(t *testing.T) {
	for i := range 256 {
		s := string([]byte{byte(i)})
		for _, name := range []string{s, s + "a", "a" + s, "a" + s + "b", s + s} {
			line := name + ": b"
			switch {
			case isTokenByte(byte(i)):
				holdParse(t, line, name, "b")
			case i == ':' && name[0] != ':': // the name ends there
				holdParse(t, line, "a", strings.Trim(line[2:], " "))
			default:
				holdNoParse(t, api.ErrSyntax, line)
			}
		}
	}
}

// P10.1: each byte, wherever it may stand in a value, with blanks about it and without.
func TestParseOfEachByteInAValue(t *testing.T) {
	for i := range 256 {
		s := string([]byte{byte(i)})
		for _, value := range []string{s, s + "b", "b" + s, "b" + s + "c", s + s, " " + s, s + "\t", "\t " + s + " \t"} {
			line := "a:" + value
			if isValueByte(byte(i)) {
				holdParse(t, line, "a", strings.Trim(value, "\t "))
			} else {
				holdNoParse(t, api.ErrSyntax, line)
			}
		}
	}
}

// wrongs are no fields.
func wrongs() []api.Field {
	l := row("", "", "", "b", " ", "b", ":", "b", "a:", "b", "a b", "c", " a", "b", "a ", "b", "\ta", "b", "a\t", "b", "a,b", "c", "a/b", "c", "(a)", "b", "a\"", "b",
		"a\n", "b", "\x00", "b", "a\x7f", "b", "\u00e4", "b", "\xff", "b",
		"a", " ", "a", "\t", "a", " b", "a", "b ", "a", "\tb", "a", "b\t", "a", " b ", "a", "  ", "a", "b c ", "a", " b c",
		"a", "\n", "a", "b\n", "a", "\rb", "a", "b\r\nc: d", "a", "\x00", "a", "b\x00", "a", "\x7f", "a", "b\x1fc", "a", "\vb", "a", "b\f",
		"", " b", "a b", "c\n", " ", " ")
	return append(l, api.Field{Name: strings.Repeat("a", long) + " "}, api.Field{Name: "a", Value: strings.Repeat("b", long) + " "}, api.Field{Name: "a", Value: strings.Repeat("b", long) + "\n"})
}

// P10.2: none, one and several are laid behind those that are there, in order.
func TestAdd(t *testing.T) {
	f := newFields(t)
	holdAdd(t, f, 0, api.OK)
	holdAll(t, f)
	holdAdd(t, f, 0, api.OK, []api.Field{}...)
	holdAll(t, f)
	holdAdd(t, f, 1, api.OK, row("b", "1")...)
	holdAll(t, f, row("b", "1")...)
	holdAdd(t, f, 3, api.OK, row("c", "2", "a", "3", "B", "")...)
	holdAll(t, f, row("b", "1", "c", "2", "a", "3", "B", "")...)
	holdAdd(t, f, 0, api.OK)
	holdAdd(t, f, 2, api.OK, row("a", "3", "a", "3")...)
	holdAll(t, f, row("b", "1", "c", "2", "a", "3", "B", "", "a", "3", "a", "3")...)
}

// P10.2: what may be a field, by chapter 10's words; it has no bound of its own.
func TestAddOfFields(t *testing.T) {
	for _, x := range slices.Concat(row("a", "", "A", "b", "a", "b c", "a", "b\tc", "a", ":", "a", ",", "a", "b, c", "a", "\u00a0b\u2003", "a", "\xff", "a", "b\x80c", "0", "0", "~", "~"),
		row(tokenBytes, "b", strings.Repeat("a", api.MaxLine), "b", "a", strings.Repeat("b", api.MaxLine), strings.Repeat("a", long), "b", "a", strings.Repeat("b c", long))) {
		newFields(t, x)
		f := newFields(t, row("a", "b")...)
		holdAdd(t, f, 1, api.OK, x)
		holdAll(t, f, append(row("a", "b"), x)...)
	}
}

// P10.2: at the first that is no field it ends, wherever that stands: how many were laid ahead of it, and ErrSyntax.
func TestAddOfNoField(t *testing.T) {
	good := row("a", "b", "C", "", "a", "d e")
	for _, wrong := range wrongs() {
		for _, had := range [][]api.Field{nil, row("x", "y"), numbered(7)} {
			for i := range len(good) + 1 {
				f := newFields(t, had...)
				holdAdd(t, f, i, api.ErrSyntax, slices.Insert(slices.Clone(good), i, wrong)...)
				holdAll(t, f, slices.Concat(had, good[:i])...)
			}
		}
	}
}

// P10.2: those behind the first that is none are not looked at: neither are they laid, nor do they change the error.
func TestAddLooksNoFurther(t *testing.T) {
	for _, wrong := range wrongs() {
		f := newFields(t, row("a", "b")...)
		holdAdd(t, f, 1, api.ErrSyntax, append(row("c", "d", "e ", "f", "g", "h"), wrong)...)
		holdAdd(t, f, 0, api.ErrSyntax, wrong, wrong, api.Field{Name: "i", Value: "j"})
		holdAll(t, f, row("a", "b", "c", "d")...)
		holdAdd(t, f, 1, api.ErrSyntax, append([]api.Field{{Name: "k"}, wrong}, numbered(2*api.MaxFields)...)...)
		holdAll(t, f, row("a", "b", "c", "d", "k", "")...)
	}
}

// P10.2: each byte, wherever it may stand in a name or in a value.
func TestAddOfEachByte(t *testing.T) {
	hold := func(good bool, name, value string) {
		t.Helper()
		x := api.Field{Name: name, Value: value}
		f := newFields(t)
		if good {
			holdAdd(t, f, 1, api.OK, x)
			holdAll(t, f, x)
		} else {
			holdAdd(t, f, 0, api.ErrSyntax, x)
			holdAll(t, f)
		}
	}
	for i := range 256 {
		c := byte(i)
		s := string([]byte{c})
		for _, name := range []string{s, s + "a", "a" + s, "a" + s + "b"} {
			hold(isTokenByte(c), name, "b")
		}
		for _, value := range []string{s, s + "b", "b" + s} {
			hold(isValueByte(c) && !isBlank(c), "a", value)
		}
		hold(isValueByte(c), "a", "b"+s+"c")
	}
}

// P10.2: MaxFields may be, however they came, and no more.
func TestAddUpToMaxFields(t *testing.T) {
	all := numbered(api.MaxFields)
	more := api.Field{Name: "more", Value: "of them"}
	for n := range api.MaxFields + 1 {
		f := newFields(t, all[:n]...)
		holdAdd(t, f, api.MaxFields-n, api.OK, all[n:]...)
		holdAll(t, f, all...)
		holdAdd(t, f, 0, api.ErrFull, more)
		holdAdd(t, f, 0, api.ErrFull, more, more, more)
		holdAdd(t, f, 0, api.OK)
		holdAll(t, f, all...)
	}
	f := newFields(t)
	for i, x := range all {
		holdAdd(t, f, 1, api.OK, x)
		holdAll(t, f, all[:i+1]...)
	}
	holdAdd(t, f, 0, api.ErrFull, all[0])
	holdAll(t, f, all...)
	same := slices.Repeat(row("a", "b"), api.MaxFields)
	holdAdd(t, newFields(t, same...), 0, api.ErrFull, same...)
}

// P10.2: those that have room are laid, and the first that has none tells ErrFull.
func TestAddAboveMaxFields(t *testing.T) {
	for had := range api.MaxFields + 1 {
		for above := 1; above < 4; above++ {
			all := numbered(api.MaxFields + above)
			f := newFields(t, all[:had]...)
			holdAdd(t, f, api.MaxFields-had, api.ErrFull, all[had:]...)
			holdAll(t, f, all[:api.MaxFields]...)
		}
	}
	many := numbered(long)
	f := newFields(t)
	holdAdd(t, f, api.MaxFields, api.ErrFull, many...)
	holdAll(t, f, many[:api.MaxFields]...)
}

// P10.2: one that is no field is ErrSyntax when there is no room for it as well; behind one without room it is not looked at.
func TestAddOfNoFieldAtMaxFields(t *testing.T) {
	all := numbered(api.MaxFields)
	more := api.Field{Name: "more", Value: "of them"}
	for _, wrong := range wrongs() {
		f := newFields(t, all...)
		holdAdd(t, f, 0, api.ErrSyntax, wrong)
		holdAdd(t, f, 0, api.ErrSyntax, wrong, more)
		holdAdd(t, f, 0, api.ErrFull, more, wrong)
		holdAll(t, f, all...)
		f = newFields(t, all[1:]...)
		holdAdd(t, f, 0, api.ErrSyntax, wrong, more)
		holdAll(t, f, all[1:]...)
		holdAdd(t, f, 1, api.ErrSyntax, more, wrong, more)
		holdAll(t, f, append(slices.Clone(all[1:]), more)...)
	}
}

// P10.2: Of is what Add lays: all, or those ahead of the first that it does not.
func TestOf(t *testing.T) {
	newFields(t)
	newFields(t, []api.Field{}...)
	newFields(t, row("b", "1", "a", "2", "B", "3")...)
	newFields(t, numbered(api.MaxFields)...)
	good := row("b", "1", "a", "2", "B", "3")
	for _, wrong := range wrongs() {
		for i := range len(good) + 1 {
			f := field.Of(slices.Insert(slices.Clone(good), i, wrong)...)
			holdAll(t, f, good[:i]...)
			holdAdd(t, f, 1, api.OK, row("c", "4")...)
			holdAll(t, f, append(slices.Clone(good[:i]), row("c", "4")...)...)
		}
		holdAll(t, field.Of(wrong))
		holdAll(t, field.Of(append(numbered(api.MaxFields), wrong)...), numbered(api.MaxFields)...)
	}
	f := field.Of(numbered(api.MaxFields + 3)...)
	holdAll(t, f, numbered(api.MaxFields)...)
	holdAdd(t, f, 0, api.ErrFull, good...)
}

// P10.2: those that Of made are no one's but their own.
func TestOfMakesNewOnes(t *testing.T) {
	l := row("a", "b")
	f, g, h := field.Of(l...), field.Of(l...), field.Of()
	holdAdd(t, f, 1, api.OK, row("c", "d")...)
	holdDrop(t, g, 1, "a")
	holdAll(t, f, row("a", "b", "c", "d")...)
	holdAll(t, g)
	holdAll(t, h)
	holdAll(t, field.Of())
}

// Ways: Of, Add and Drop are variadic.
func TestVariadic(t *testing.T) {
	var of func(...api.Field) *field.Fields = field.Of
	f := of()
	var add func(...api.Field) (int, api.Errno) = f.Add
	var drop func(...string) int = f.Drop
	if n, err := add(); n != 0 || err != api.OK || drop() != 0 {
		t.Errorf("without an argument: Add = %d, %v, Drop = %d", n, err, drop())
	}
	holdAll(t, f)
}

// P10.3: the values of a name, of either size, in order, and all of them joined.
func TestValues(t *testing.T) {
	f := newFields(t, row("Via", "1", "host", "a", "via", "", "Accept", "x, y", "VIA", "3", "empty", "", "vIa", "1")...)
	for _, name := range []string{"via", "Via", "VIA", "viA"} {
		holdName(t, f, name, "1", "", "3", "1")
	}
	holdName(t, f, "HOST", "a")
	holdName(t, f, "accept", "x, y")
	holdName(t, f, "Empty", "")
	for _, c := range []struct{ name, want string }{
		{"via", "1, , 3, 1"}, {"host", "a"}, {"ACCEPT", "x, y"}, {"empty", ""}, {"none", ""}, {"", ""},
	} {
		if got := f.Get(c.name); got != c.want {
			t.Errorf("Get(%q) = %q, not %q", c.name, got, c.want)
		}
	}
}

// P10.3: two of a name that are empty, one of them, and a value that has commas of its own.
func TestGetOfSeveral(t *testing.T) {
	for _, c := range []struct {
		values []string
		want   string
	}{
		{nil, ""},
		{[]string{""}, ""},
		{[]string{"a"}, "a"},
		{[]string{"", ""}, ", "},
		{[]string{"", "a"}, ", a"},
		{[]string{"a", ""}, "a, "},
		{[]string{"b", "a"}, "b, a"},
		{[]string{"a, b", "c,d"}, "a, b, c,d"},
		{[]string{",", ","}, ",, ,"},
		{[]string{"a", "b", "c"}, "a, b, c"},
		{slices.Repeat([]string{"a"}, api.MaxFields), strings.Repeat("a, ", api.MaxFields-1) + "a"},
	} {
		var l []api.Field
		for _, v := range c.values {
			l = append(l, api.Field{Name: "Name", Value: v})
		}
		if got := newFields(t, l...).Get("nAME"); got != c.want {
			t.Errorf("Get of %q = %q, not %q", c.values, got, c.want)
		}
	}
}

// P10.3: names are one just where the small letters of A to Z are, byte against byte.
func TestNamesThatAreOne(t *testing.T) {
	for i := range len(tokenBytes) {
		had := "x" + tokenBytes[i:i+1]
		for k := range 256 {
			name := "X" + string([]byte{byte(k)})
			one := lower(had) == lower(name)
			f := newFields(t, row(had, "1")...)
			if one {
				holdName(t, f, name, "1")
				holdDrop(t, f, 1, name)
				holdAll(t, f)
			} else {
				holdName(t, f, name)
				holdDrop(t, f, 0, name)
				holdAll(t, f, row(had, "1")...)
			}
		}
	}
}

// P10.3: all fields of the names go, of either size, wherever they stand; the others stay, in order.
func TestDrop(t *testing.T) {
	had := row("a", "1", "B", "2", "A", "3", "c", "4", "b", "5", "a", "6")
	for _, c := range []struct {
		names []string
		left  []api.Field
	}{
		{nil, had},
		{[]string{}, had},
		{[]string{""}, had},
		{[]string{"d"}, had},
		{[]string{" a", "a ", "a:", "aa", "\xff"}, had},
		{[]string{"c"}, row("a", "1", "B", "2", "A", "3", "b", "5", "a", "6")},
		{[]string{"C"}, row("a", "1", "B", "2", "A", "3", "b", "5", "a", "6")},
		{[]string{"a"}, row("B", "2", "c", "4", "b", "5")},
		{[]string{"A"}, row("B", "2", "c", "4", "b", "5")},
		{[]string{"b"}, row("a", "1", "A", "3", "c", "4", "a", "6")},
		{[]string{"a", "a"}, row("B", "2", "c", "4", "b", "5")},
		{[]string{"a", "A"}, row("B", "2", "c", "4", "b", "5")},
		{[]string{"A", "d", "a"}, row("B", "2", "c", "4", "b", "5")},
		{[]string{"c", "B"}, row("a", "1", "A", "3", "a", "6")},
		{[]string{"d", "", "c"}, row("a", "1", "B", "2", "A", "3", "b", "5", "a", "6")},
		{[]string{"b", "a"}, row("c", "4")},
		{[]string{"C", "a", "b"}, nil},
		{[]string{"a", "b", "c", "d", "a"}, nil},
	} {
		f := newFields(t, had...)
		holdDrop(t, f, len(had)-len(c.left), c.names...)
		holdAll(t, f, c.left...)
		holdDrop(t, f, 0, c.names...)
		holdAll(t, f, c.left...)
	}
}

// P10.3: Drop of each one of the most that may be, of all of them, and of none that are there.
func TestDropAtMaxFields(t *testing.T) {
	all := numbered(api.MaxFields)
	names := namesOf(all)
	for i, name := range names {
		f := newFields(t, all...)
		holdDrop(t, f, 1, upper(name))
		holdAll(t, f, slices.Delete(slices.Clone(all), i, i+1)...)
	}
	f := newFields(t, all...)
	holdDrop(t, f, api.MaxFields, names...)
	holdAll(t, f)
	holdDrop(t, f, 0, names...)
	f = newFields(t, slices.Repeat(row("a", "b"), api.MaxFields)...)
	holdDrop(t, f, 0, names...)
	holdDrop(t, f, api.MaxFields, slices.Repeat([]string{"A"}, long)...)
	holdAll(t, f)
}

// P10.2, P10.3: behind a Drop there is room for as many as went, and they are laid behind those that stayed.
func TestAddBehindDrop(t *testing.T) {
	f := newFields(t, append(row("a", "1", "b", "2", "A", "3"), numbered(api.MaxFields-3)...)...)
	holdAdd(t, f, 0, api.ErrFull, row("a", "4")...)
	holdDrop(t, f, 2, "a")
	left := append(row("b", "2"), numbered(api.MaxFields-3)...)
	holdAll(t, f, left...)
	holdAdd(t, f, 2, api.ErrFull, row("a", "4", "c", "5", "d", "6")...)
	left = append(left, row("a", "4", "c", "5")...)
	holdAll(t, f, left...)
	holdDrop(t, f, api.MaxFields-3, namesOf(numbered(api.MaxFields-3))...)
	holdAll(t, f, row("b", "2", "a", "4", "c", "5")...)
	holdDrop(t, f, 3, "a", "b", "c")
	holdAll(t, f)
	holdAdd(t, f, 1, api.OK, row("a", "7")...)
	holdAll(t, f, row("a", "7")...)
}

// P10.4: names and values stay as they were handed in, by Add, Of and Parse.
func TestNamesAndValuesStay(t *testing.T) {
	l := row("HOST", "A", "host", "a", "hOsT", "Aa", "x-\x60~", "\"B\"  c\t\xff")
	f := newFields(t, l...)
	for range 3 {
		f.Values("host")
		f.Get("HOST")
		f.Has("Host")
		holdDrop(t, f, 0, "h", "OST")
		holdAll(t, f, l...)
	}
	x, err := field.Parse("hOST: A \t")
	holdAdd(t, f, 1, err, x)
	holdAll(t, f, append(l, api.Field{Name: "hOST", Value: "A"})...)
}

// P10.4: of a nil Fields Add answers ErrArg, whatever it is given, all else nothing.
func TestNil(t *testing.T) {
	var f *field.Fields
	for range 2 {
		holdAdd(t, f, 0, api.ErrArg)
		holdAdd(t, f, 0, api.ErrArg, row("a", "b")...)
		holdAdd(t, f, 0, api.ErrArg, numbered(api.MaxFields+1)...)
		for _, wrong := range wrongs() {
			holdAdd(t, f, 0, api.ErrArg, wrong)
		}
		holdDrop(t, f, 0)
		holdDrop(t, f, 0, "a", "")
		holdName(t, f, "a")
		holdAll(t, f)
	}
}

// W6: lists that are handed in are left as they are, spare room too, whatever is answered.
func TestListsAreLeftAlone(t *testing.T) {
	for _, l := range [][]api.Field{row("A", "b", "C", "d", "SPARE", "x", "ROOM", "y"), row("A", "b", "c ", "d", "SPARE", "x", "ROOM", "y")} {
		before := slices.Clone(l)
		f := field.Of(l[:2]...)
		f.Add(l[:2]...)
		f.Add(row("e", "f")...)
		f.Drop("A")
		f.Add(l[1:3]...)
		if !slices.Equal(l, before) {
			t.Errorf("%q came of %q", l, before)
		}
	}
	names := []string{"A", "c", "SPARE", "ROOM"}
	f := newFields(t, row("a", "b", "C", "d")...)
	holdDrop(t, f, 2, names[:2]...)
	if !slices.Equal(names, []string{"A", "c", "SPARE", "ROOM"}) {
		t.Errorf("the names became %q", names)
	}
}

// W6: lists that were handed in and are changed afterwards change nothing.
func TestListsThatAreChangedAfterwards(t *testing.T) {
	of, added := row("a", "1", "b", "2"), row("c", "3", "A", "4")
	f, g := field.Of(of...), field.Of()
	holdAdd(t, f, 2, api.OK, added...)
	holdAdd(t, g, 2, api.OK, added...)
	names := []string{"b"}
	holdDrop(t, f, 1, names...)
	for _, l := range [][]api.Field{of, added} {
		for i := range l {
			l[i] = api.Field{Name: "changed", Value: "changed"}
		}
	}
	names[0] = "a"
	holdAll(t, f, row("a", "1", "c", "3", "A", "4")...)
	holdAll(t, g, row("c", "3", "A", "4")...)
}

// overwrite changes a whole list, spare room too.
func overwrite[T any](l []T, with T) {
	l = l[:cap(l)]
	for i := range l {
		l[i] = with
	}
}

// P10.4, W6, W7: an answer that is changed afterwards, spare room too, changes neither what is kept nor another one.
func TestAnswersThatAreChangedAfterwards(t *testing.T) {
	for n := range api.MaxFields + 1 {
		l := numbered(n)
		for i := range l {
			l[i].Name = []string{"A", "b", "a"}[i%3]
		}
		f := newFields(t, l...)
		all, values := f.All(), f.Values("a")
		overwrite(f.All(), api.Field{Name: "changed", Value: "changed"})
		overwrite(f.Values("a"), "changed")
		overwrite(f.Values("b"), "changed")
		if !slices.Equal(all, l) || !slices.Equal(values, valuesOf(l, "a")) {
			t.Errorf("All became %s, Values %s", short(all), short(values))
		}
		overwrite(all, api.Field{Name: "changed", Value: "changed"})
		overwrite(values, "changed")
		holdAll(t, f, l...)
		if n < api.MaxFields {
			holdAdd(t, f, 1, api.OK, row("c", "d")...)
			holdAll(t, f, append(l, row("c", "d")...)...)
		}
	}
}

// W7: what was answered stays what it is, whatever is called later.
func TestAnswersStay(t *testing.T) {
	l := row("a", "1", "b", "2", "A", "3", "c", "4")
	f := newFields(t, l...)
	all, values, one := f.All(), f.Values("a"), f.Get("a")
	holdDrop(t, f, 2, "a")
	holdAdd(t, f, 3, api.OK, row("x", "5", "y", "6", "z", "7")...)
	holdDrop(t, f, 2, "b", "c")
	holdAdd(t, f, 2, api.OK, row("v", "8", "w", "9")...)
	if !slices.Equal(all, l) || !slices.Equal(values, []string{"1", "3"}) || one != "1, 3" {
		t.Errorf("All became %s, Values %q, Get %q", short(all), values, one)
	}
	holdAll(t, f, row("x", "5", "y", "6", "z", "7", "v", "8", "w", "9")...)
}

// P10.4, W6: nothing of a text that is handed in is kept or answered, when its bytes are changed afterwards.
func TestTextsThatAreChangedAfterwards(t *testing.T) {
	bytes := []byte("Long-Name:  a long value \t")
	line := unsafe.String(&bytes[0], len(bytes))
	x, err := field.Parse(line)
	in := api.Field{Name: line[:9], Value: line[12:24]}
	f := field.Of(in)
	holdAdd(t, f, 1, api.OK, in)
	all, values, one := f.All(), f.Values("LONG-NAME"), f.Get("long-name")
	for i := range bytes {
		bytes[i] = 'x'
	}
	want := api.Field{Name: "Long-Name", Value: "a long value"}
	if x != want || err != api.OK {
		t.Errorf("Parse became %q, %v", x, err)
	}
	if !slices.Equal(all, []api.Field{want, want}) || !slices.Equal(values, []string{want.Value, want.Value}) || one != "a long value, a long value" {
		t.Errorf("All became %q, Values %q, Get %q", all, values, one)
	}
	holdAll(t, f, want, want)
}

// shares tells whether two texts lie in the same memory.
func shares(a, b string) bool {
	from, to := uintptr(unsafe.Pointer(unsafe.StringData(a))), uintptr(unsafe.Pointer(unsafe.StringData(b)))
	return from < to+uintptr(len(b)) && to < from+uintptr(len(a))
}

// P10.4, W6: what is answered is new memory: it shares none with an argument, nor with another answer.
func TestAnswersAreNewMemory(t *testing.T) {
	in := api.Field{Name: "content-type", Value: "text/plain"}
	const line = "transfer-encoding: chunked"
	x, _ := field.Parse(line)
	f := newFields(t, in, x)
	texts := []string{in.Name, in.Value, line, x.Name, x.Value}
	for range 2 {
		for _, y := range f.All() {
			texts = append(texts, y.Name, y.Value)
		}
		for _, y := range []string{in.Name, x.Name} {
			texts = append(append(texts, f.Get(y)), f.Values(y)...)
		}
	}
	if len(texts) != 21 {
		t.Fatalf("told %q", texts)
	}
	for i, a := range texts {
		for _, b := range texts[:i] {
			if shares(a, b) {
				t.Errorf("%q shares memory with %q", a, b)
			}
		}
	}
}

// answers is all that the package answers of a text and a row.
func answers(line string, l []api.Field) string {
	x, xErr := field.Parse(line)
	f := field.Of(l...)
	n, err := f.Add(x)
	return fmt.Sprintf("%q", []any{x, int(xErr), n, int(err), f.Values(line), f.Get(x.Name), f.Has(line), f.All(), f.Drop(line, "a"), f.All(), f.Len()})
}

// W2, P0.7: what is answered depends on what was done alone: not on what others did, nor on who asks meanwhile.
func TestAnswersDependOnWhatWasDoneAlone(t *testing.T) {
	lines := []string{"", "a", "a:b", "A : b", "A: c ", ":", "b:\x00", "b:\xff", strings.Repeat("a:", api.MaxLine/2), strings.Repeat("a:", api.MaxLine)}
	rows := [][]api.Field{nil, row("a", "b"), row("A", "", "b", "c"), row("a", "b", "b ", "", "a", "c"), numbered(api.MaxFields), numbered(api.MaxFields + 1)}
	ask := func() []string {
		var told []string
		for _, line := range lines {
			for _, l := range rows {
				told = append(told, answers(line, l))
			}
		}
		return told
	}
	want := ask()
	slices.Reverse(lines)
	ask()
	slices.Reverse(lines)
	var wait sync.WaitGroup
	got := make([][]string, 4)
	for i := range got {
		wait.Go(func() { got[i] = ask() })
	}
	wait.Wait()
	for i := range got {
		if !slices.Equal(got[i], want) {
			t.Errorf("asker %d is answered otherwise", i)
		}
	}
}
