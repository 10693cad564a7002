package list_test

import (
	"fmt"
	"slices"
	"strings"
	"sync"
	"testing"
	"unsafe"

	"usher/list"
)

const (
	bigLetters   = "ABCDEFGHIJKLMNOPQRSTUVWXYZ"
	smallLetters = "abcdefghijklmnopqrstuvwxyz"
	tokenBytes   = bigLetters + smallLetters + "0123456789" + "!#$%&'*+-.^_\x60|~"
	long         = 1 << 16
)

// lower is the small letter of one of A to Z; all else is as it is.
func lower(s string) string {
	for i := range len(bigLetters) {
		s = strings.ReplaceAll(s, bigLetters[i:i+1], smallLetters[i:i+1])
	}
	return s
}

func isTokenByte(c byte) bool { return strings.IndexByte(tokenBytes, c) >= 0 }

func isValueByte(c byte) bool { return c == 9 || c >= 0x20 && c <= 0x7e || c >= 0x80 }

// short is a text that can be shown.
func short(v any) string { return fmt.Sprintf("%.120q", v) }

func holdTokens(t *testing.T, values []string, want ...string) {
	t.Helper()
	if got, ok := list.Tokens(values...); !ok || !slices.Equal(got, want) {
		t.Errorf("Tokens(%s) = %s, %v, not %s", short(values), short(got), ok, short(want))
	}
}

func holdNoTokens(t *testing.T, values ...string) {
	t.Helper()
	if got, ok := list.Tokens(values...); ok || len(got) != 0 {
		t.Errorf("Tokens(%s) = %s, %v, not nothing, false", short(values), short(got), ok)
	}
}

func holdHas(t *testing.T, want bool, token string, values ...string) {
	t.Helper()
	if got := list.Has(token, values...); got != want {
		t.Errorf("Has(%s, %s) = %v", short(token), short(values), got)
	}
}

func holdQuoted(t *testing.T, s, want string, n int) {
	t.Helper()
	if got, bytes := list.Quoted(s); got != want || bytes != n {
		t.Errorf("Quoted(%s) = %s, %d, not %s, %d", short(s), short(got), bytes, short(want), n)
	}
}

// holdParams takes names and values by turns.
func holdParams(t *testing.T, s string, want ...string) {
	t.Helper()
	var l []list.Param
	for i := 0; i < len(want); i += 2 {
		l = append(l, list.Param{Name: want[i], Value: want[i+1]})
	}
	if got, ok := list.Params(s); !ok || !slices.Equal(got, l) {
		t.Errorf("Params(%s) = %s, %v, not %s", short(s), short(got), ok, short(l))
	}
}

func holdNoParams(t *testing.T, s string) {
	t.Helper()
	if got, ok := list.Params(s); ok || len(got) != 0 {
		t.Errorf("Params(%s) = %s, %v, not nothing, false", short(s), short(got), ok)
	}
}

// P9.1: values are parted at commas, empty parts are passed over, tokens are told in small letters, in order.
func TestTokens(t *testing.T) {
	for _, c := range []struct{ values, want []string }{
		{nil, nil},
		{[]string{}, nil},
		{[]string{""}, nil},
		{[]string{"", "", ""}, nil},
		{[]string{","}, nil},
		{[]string{",,,", ",", ""}, nil},
		{[]string{" "}, nil},
		{[]string{" \t, ,\t"}, nil},
		{[]string{"a"}, []string{"a"}},
		{[]string{"a, ,B", "c"}, []string{"a", "b", "c"}}, // the document's
		{[]string{"a,b,c"}, []string{"a", "b", "c"}},
		{[]string{",a"}, []string{"a"}},
		{[]string{",,a,b"}, []string{"a", "b"}},
		{[]string{"a,"}, []string{"a"}},
		{[]string{"a,b,,"}, []string{"a", "b"}},
		{[]string{"a,,b"}, []string{"a", "b"}},
		{[]string{"a, \t ,,b"}, []string{"a", "b"}},
		{[]string{" a"}, []string{"a"}},
		{[]string{"a\t"}, []string{"a"}},
		{[]string{"\t a \t,  b\t\t"}, []string{"a", "b"}},
		{[]string{"b", "a"}, []string{"b", "a"}},
		{[]string{"b,a", "d,c"}, []string{"b", "a", "d", "c"}},
		{[]string{"", "a", "", "b", ""}, []string{"a", "b"}},
		{[]string{"a,a", "A"}, []string{"a", "a", "a"}},
		{[]string{"Keep-Alive, CLOSE"}, []string{"keep-alive", "close"}},
		{[]string{"gzip", "cHuNkEd"}, []string{"gzip", "chunked"}},
		{[]string{"5", " 5,6"}, []string{"5", "5", "6"}},
		{[]string{tokenBytes}, []string{lower(tokenBytes)}},
	} {
		holdTokens(t, c.values, c.want...)
	}
	if got, ok := list.Tokens("a", " B ,", "c"); !ok || !slices.Equal(got, []string{"a", "b", "c"}) {
		t.Errorf("Tokens of arguments one by one = %q, %v", got, ok)
	}
}

// P9.1, Ways: Tokens and Has are variadic.
func TestVariadic(t *testing.T) {
	var tokens func(...string) ([]string, bool) = list.Tokens
	var has func(string, ...string) bool = list.Has
	if got, ok := tokens(); !ok || len(got) != 0 || has("a") {
		t.Errorf("without a value: Tokens = %q, %v, Has = %v", got, ok, has("a"))
	}
}

// P9.1: a part that is no token takes all with it, wherever it stands.
func TestNoTokens(t *testing.T) {
	for _, wrong := range []string{
		"a b", "a\tb", "a b c", "a  b", "a;q=1", "a=b", "a/b", "a:b", "\"a\"", "\"\"", "a\"", "(a)", "a(b)", "[a]", "{a}", "<a>", "a@b", "a\\b", "a?",
		"\x00", "a\x00", "\x7f", "\n", "a\n", "\r", "a\r", "\n a", "\v", "\f", "\x80", "\xff", "\u00e4", "a\u00a0", "\u2003", "\xc2",
	} {
		holdNoTokens(t, wrong)
		holdNoTokens(t, " "+wrong+"\t")
		holdNoTokens(t, wrong+",a") // first
		holdNoTokens(t, "a,"+wrong+",b")
		holdNoTokens(t, "a, "+wrong) // last
		holdNoTokens(t, ","+wrong+",")
		holdNoTokens(t, wrong, "a")
		holdNoTokens(t, "a", wrong)
		holdNoTokens(t, "a,b", "", "c,"+wrong+",d")
		holdNoTokens(t, "a", "b", wrong, "c")
		holdNoTokens(t, wrong, wrong)
	}
}

// P9.1: each byte alone and beside a letter.
func TestTokensOfEachByte(t *testing.T) {
	for i := range 256 {
		c := byte(i)
		s := string([]byte{c})
		alone, behind, ahead, between := []string{s}, []string{"q" + s}, []string{s + "q"}, []string{"q" + s + "Q"}
		switch {
		case isTokenByte(c):
			holdTokens(t, alone, lower(s))
			holdTokens(t, behind, "q"+lower(s))
			holdTokens(t, ahead, lower(s)+"q")
			holdTokens(t, between, "q"+lower(s)+"q")
		case c == ',':
			holdTokens(t, alone)
			holdTokens(t, behind, "q")
			holdTokens(t, ahead, "q")
			holdTokens(t, between, "q", "q")
		case c == ' ' || c == '\t':
			holdTokens(t, alone)
			holdTokens(t, behind, "q")
			holdTokens(t, ahead, "q")
			holdNoTokens(t, between...)
		default:
			for _, l := range [][]string{alone, behind, ahead, between} {
				holdNoTokens(t, l...)
			}
		}
	}
}

// W1, P9.1: many values, many parts, great ones.
func TestTokensOfMuch(t *testing.T) {
	const many = 3000
	var values, want []string
	for i := range many {
		values = append(values, fmt.Sprintf("A%d, ,b%d", i, i), "")
		want = append(want, fmt.Sprintf("a%d", i), fmt.Sprintf("b%d", i))
	}
	holdTokens(t, values, want...)
	holdTokens(t, []string{strings.Join(values, ",")}, want...)
	holdNoTokens(t, append(slices.Clone(values), "a b")...)
	holdTokens(t, []string{strings.Repeat(",", long)})
	holdTokens(t, []string{strings.Repeat(" \t", long)})
	holdTokens(t, []string{strings.Repeat(" ", long) + "A" + strings.Repeat("\t", long)}, "a")
	holdTokens(t, []string{strings.Repeat("Ab", long)}, strings.Repeat("ab", long))
	holdNoTokens(t, strings.Repeat("Ab", long)+"/")
}

// P9.1: a token is there in either size, as a whole, and only where the values are lists.
func TestHas(t *testing.T) {
	for _, c := range []struct {
		want   bool
		token  string
		values []string
	}{
		{true, "a", []string{"a"}},
		{true, "A", []string{"a"}},
		{true, "a", []string{"A"}},
		{true, "cLoSe", []string{"keep-alive, ClOsE"}},
		{true, "close", []string{"x", "y,z", "Close"}},
		{true, "a", []string{"a,a"}},
		{true, "a", []string{"a", "b", "A"}},
		{true, "a", []string{"b,", "\ta "}},
		{true, "b", []string{"a, ,B", "c"}},
		{true, "a-b", []string{"a-b"}},
		{true, tokenBytes, []string{lower(tokenBytes)}},
		{false, "d", []string{"a, ,B", "c"}},
		{false, "a", nil},
		{false, "a", []string{}},
		{false, "a", []string{""}},
		{false, "a", []string{" ,, "}},
		{false, "a", []string{"ab", "ba", "a-b"}}, // a part of one
		{false, "ab", []string{"a", "b", "abc", "cab"}},
		{false, "close", []string{"clos", "closed", "not-close"}},
		{false, "", nil},
		{false, "", []string{""}},
		{false, "", []string{",", "a,,b"}},
		{false, " ", []string{" ", "a"}},
		{false, "a ", []string{"a "}}, // not Trimmed
		{false, " a", []string{" a"}},
		{false, "a,b", []string{"a,b"}},
		{false, "a b", []string{"a,b"}},
		{false, "a b", []string{"a b"}},
		{false, "\u212a", []string{"k"}}, // a letter, but not of A to Z
		{false, "\xff", []string{"a"}},
		{false, "a", []string{"a", "b c"}}, // one value is wrong
		{false, "a", []string{"b c", "a"}},
		{false, "a", []string{"a,b c"}},
		{false, "a", []string{"a", "a", "\"a\"", "a"}},
		{false, "a", []string{"a", "\n"}},
	} {
		holdHas(t, c.want, c.token, c.values...)
	}
	holdHas(t, true, strings.Repeat("A", long), "b", strings.Repeat("a", long))
	holdHas(t, false, strings.Repeat("A", long), "b", strings.Repeat("a", long+1))
}

// P9.1: each byte as what is asked for: a token's is there just where its Lower is.
func TestHasOfEachByte(t *testing.T) {
	for i := range 256 {
		for k := range 256 {
			if token, c := string([]byte{byte(i)}), byte(k); isTokenByte(c) {
				value := string([]byte{c})
				holdHas(t, lower(token) == lower(value), token, value)
			}
		}
		s := string([]byte{byte(i)})
		holdHas(t, isTokenByte(byte(i)), s, s)
		holdHas(t, false, "q"+s, "q")
		holdHas(t, isTokenByte(byte(i)), "q"+s, "q, Q"+s)
	}
}

// P9.2: what stands between two quotes, and how many bytes lie from the first to the second.
func TestQuoted(t *testing.T) {
	for _, c := range []struct {
		in, want string
		n        int
	}{
		{`""`, ``, 2},
		{`"a"`, `a`, 3},
		{`"a b,;=c"`, `a b,;=c`, 9},
		{"\"\t \"", "\t ", 4},
		{`"a\"b"`, `a"b`, 6}, // the document's
		{`"\""`, `"`, 4},
		{`"\\"`, `\`, 4},
		{`"\\\""`, `\"`, 6},
		{`"\\\\"`, `\\`, 6},
		{`"\a\b"`, `ab`, 6},
		{`"\n"`, `n`, 4},
		{`"a\ "`, `a `, 5},
		{"\"\\\t\"", "\t", 4},
		{"\"\u00e4\\\u00e4\"", "\u00e4\u00e4", 7},
		{"\"\xff\\\xfe\"", "\xff\xfe", 5},
		{`"A"`, `A`, 3},
		// What stands behind the second quote is not looked at.
		{`""a`, ``, 2},
		{`"a"b`, `a`, 3},
		{`"a""b"`, `a`, 3},
		{`"a"\"`, `a`, 3},
		{`"\\"b"`, `\`, 4},
		{"\"a\"\x00\n", `a`, 3},
		{`"a"` + strings.Repeat(`"`, long), `a`, 3},
		{`"` + strings.Repeat(`a`, long) + `"`, strings.Repeat(`a`, long), long + 2},
		{`"` + strings.Repeat(`\"`, long) + `"`, strings.Repeat(`"`, long), 2*long + 2},
	} {
		holdQuoted(t, c.in, c.want, c.n)
	}
}

// P9.2: nothing, 0, of what does not begin with a quote, never ends, or has a byte that no value has.
func TestNotQuoted(t *testing.T) {
	for _, s := range []string{
		``, `a`, `a"b"`, ` "a"`, "\t\"a\"", `\"a"`, `'a'`, "\x00\"a\"",
		`"`, `"a`, `"a b`, `"\"`, `"a\"`, `"\`, `"a\`, `"\\`, `"\\\"`, `"\\\`, `"a\\\"b`,
		"\"\n\"", "\"a\r\n b\"", "\"\x00\"", "\"\x7f\"", "\"\\\x00\"", "\"\\\x7f\"", "\"\\\r\\\n\"", "\"a\x1f\"", "\"a\\\x1fb\" ",
		`"` + strings.Repeat(`a`, long), `"` + strings.Repeat(`\"`, long), `"` + strings.Repeat(`a`, long) + "\n\"", strings.Repeat(`\`, long),
	} {
		holdQuoted(t, s, "", 0)
	}
}

// P9.2: each byte within, with `\` ahead of it and without; ahead of a quoted text, and behind one.
func TestQuotedOfEachByte(t *testing.T) {
	for i := range 256 {
		c := byte(i)
		s := string([]byte{c})
		if !isValueByte(c) {
			for _, within := range []string{s, "a" + s, s + "a", `\` + s, `\a\` + s, `\` + s + "a", `a\"` + s, s + `\"`} {
				holdQuoted(t, `"`+within+`"`, "", 0)
			}
		} else {
			holdQuoted(t, `"\`+s+`"`, s, 4)
			holdQuoted(t, `"a\`+s+`"`, "a"+s, 5)
			holdQuoted(t, `"\`+s+`a"`, s+"a", 5)
			holdQuoted(t, `"\"\`+s+`\\"`, `"`+s+`\`, 8)
		}
		if isValueByte(c) && c != '"' && c != '\\' {
			holdQuoted(t, `"`+s+`"`, s, 3)
			holdQuoted(t, `"a`+s+`"`, "a"+s, 4)
			holdQuoted(t, `"`+s+`a"`, s+"a", 4)
			holdQuoted(t, `"\"`+s+`\\"`, `"`+s+`\`, 7)
		}
		if c != '"' {
			holdQuoted(t, s, "", 0)
			holdQuoted(t, s+`"a"`, "", 0)
			holdQuoted(t, `"a`+s, "", 0)
		}
		holdQuoted(t, `"a"`+s, "a", 3)
		holdQuoted(t, `"a\`+s, "", 0)
	}
}

// P9.3: any number of them, with blanks about each `;` and at the end.
func TestParams(t *testing.T) {
	for _, c := range []struct {
		in   string
		want []string // a name, a value, a name ..
	}{
		{``, nil},
		{` `, nil},
		{"\t \t", nil},
		{strings.Repeat(" \t", long), nil},
		{`; x=1;y="a\"b"`, []string{"x", "1", "y", `a"b`}}, // the document's
		{`;a`, []string{"a", ""}},
		{`;a=b`, []string{"a", "b"}},
		{`;a;b`, []string{"a", "", "b", ""}},
		{`;a=1;b;c=3`, []string{"a", "1", "b", "", "c", "3"}},
		{`;b=1;a=2`, []string{"b", "1", "a", "2"}},
		{` ;a`, []string{"a", ""}},
		{"\t;a", []string{"a", ""}},
		{`; a`, []string{"a", ""}},
		{"; \t a=1", []string{"a", "1"}},
		{`;a `, []string{"a", ""}},
		{";a=1\t ", []string{"a", "1"}},
		{" \t; a=1 \t;\t b \t", []string{"a", "1", "b", ""}},
		{`;a ;b`, []string{"a", "", "b", ""}},
		{`;a=b ;c=d`, []string{"a", "b", "c", "d"}},
		{`;a=""`, []string{"a", ""}},
		{`;a="";b=""`, []string{"a", "", "b", ""}},
		{`;a="b"`, []string{"a", "b"}},
		{`;a="b";c="d"`, []string{"a", "b", "c", "d"}},
		{`;a="b" ; c `, []string{"a", "b", "c", ""}},
		{`;a="b;c=d"`, []string{"a", "b;c=d"}},
		{`;a=" b ";c`, []string{"a", " b ", "c", ""}},
		{`;a="\\"`, []string{"a", `\`}},
		{`;a="\;\b";c`, []string{"a", ";b", "c", ""}},
		{"; a=\"\t\\\xff\"", []string{"a", "\t\xff"}},
		{`;a=1;a=2;a`, []string{"a", "1", "a", "2", "a", ""}}, // the same name twice
		{`;a;A`, []string{"a", "", "A", ""}},
		{`;Name=Value;NAME=VALUE`, []string{"Name", "Value", "NAME", "VALUE"}}, // as they are
		{`;5=5`, []string{"5", "5"}},
		{`;` + tokenBytes + `=` + tokenBytes, []string{tokenBytes, tokenBytes}},
		{strings.Repeat(" ", long) + `;` + strings.Repeat("\t", long) + `a` + strings.Repeat(" ", long), []string{"a", ""}},
		{`;` + strings.Repeat("n", long) + `="` + strings.Repeat(`\"`, long) + `"`, []string{strings.Repeat("n", long), strings.Repeat(`"`, long)}},
	} {
		holdParams(t, c.in, c.want...)
	}
}

// P9.3: nothing, false, of all else.
func TestNoParams(t *testing.T) {
	for _, s := range []string{
		`;`, ` ; `, `;;`, `;a;`, `;a; `, `;;a`, `;a;;b`, `; ;a`, // no token behind a `;`
		`a`, `a=b`, `a;b`, ` a`, `=`, `=b`, `,a`, `"a"`, // no `;` at the beginning
		`;=`, `;=b`, `;"a"`, `;"a"=b`, `;a"b"`, // no name
		`;a=`, `;a= `, `;a=;`, `;a=;b`, `;a==b`, `;a=b=c`, `;a="b"="c"`, // nothing behind a `=`, or more than that
		`;a =b`, `;a= b`, `;a = b`, ";a\t=b", ";a=\tb", `;a ="b"`, `;a= "b"`, // blanks about a `=`
		`;a b`, `;a;b c`, `;a=b c`, "; a\tb", `;a=b,;c=d`, `;a,b`, `;a=b,c`, `;a/b`, `;a=b/c`, `;a=(b)`,
		`;a="`, `;a="b`, `;a="b;c`, `;a="\"`, `;a="b\`, `;a="b;c=d`, // a quoted text that never ends
		`;a=b"`, `;a=b"c"`, `;a="b"c`, `;a="b" c`, `;a="b""c"`, `;a="b"\`, `;a="b",`, `;a="b"=`, `;a="b";`, // something behind one
		`;a='b c'`, `;a=\b`, `;a="b"c;d`, "\n", ";a\n", "\n;a", ";\na", ";a\r\n", ";a=\n", ";a=b\n", ";a\x00", ";\u00e4", ";a=\u00e4",
		"\v;a", ";\fa", ";\u00a0a", ";a\u00a0", ";a=\"\n\"", ";a=\"\x00\"", ";a=\"\\\x7f\"", ";a=\"b\"\x00",
		`;a=b;c=`, `;a=b;`, `;a;=`, `;a="b";c="`, `;a;b;c;d e`,
		`;a="` + strings.Repeat("b", long), `;` + strings.Repeat("a", long) + `=`, strings.Repeat(";", long), strings.Repeat(" ", long) + "a",
	} {
		holdNoParams(t, s)
	}
}

// kind is what a byte may be good for.
func kind(c byte) string {
	switch {
	case isTokenByte(c):
		return "token"
	case c == ' ' || c == '\t':
		return "blank"
	case c == ';' || c == '=' || c == '"' || c == '\\':
		return string([]byte{c})
	case isValueByte(c):
		return "value"
	}
	return "none"
}

// byKind is what is told where a byte of some kind stands for each `?`; of the kinds that are not named nothing is.
type byKind map[string][]string

// P9.3: each byte in a name, a value, a quoted text, ahead of and behind one.
func TestParamsOfEachByte(t *testing.T) {
	for form, wants := range map[string]byKind{
		`?`:         {"blank": {}},
		`?;a`:       {"blank": {"a", ""}},
		`;?`:        {"token": {"?", ""}},
		`;?=b`:      {"token": {"?", "b"}},
		`;?a`:       {"token": {"?a", ""}, "blank": {"a", ""}},
		`;a?`:       {"token": {"a?", ""}, "blank": {"a", ""}},
		`;a?b`:      {"token": {"a?b", ""}, ";": {"a", "", "b", ""}, "=": {"a", "b"}},
		`;a?;b`:     {"token": {"a?", "", "b", ""}, "blank": {"a", "", "b", ""}},
		`;a?=b`:     {"token": {"a?", "b"}},
		`;a=?`:      {"token": {"a", "?"}},
		`;a=?b`:     {"token": {"a", "?b"}},
		`;a=b?`:     {"token": {"a", "b?"}, "blank": {"a", "b"}},
		`;a=b?c`:    {"token": {"a", "b?c"}, ";": {"a", "b", "c", ""}},
		`;a=b?;c`:   {"token": {"a", "b?", "c", ""}, "blank": {"a", "b", "c", ""}},
		`;a="?"`:    {"token": {"a", "?"}, "blank": {"a", "?"}, ";": {"a", "?"}, "=": {"a", "?"}, "value": {"a", "?"}},
		`;a="b?";c`: {"token": {"a", "b?", "c", ""}, "blank": {"a", "b?", "c", ""}, ";": {"a", "b?", "c", ""}, "=": {"a", "b?", "c", ""}, "value": {"a", "b?", "c", ""}},
		`;a="\?"`: {"token": {"a", "?"}, "blank": {"a", "?"}, ";": {"a", "?"}, "=": {"a", "?"}, "value": {"a", "?"},
			`"`: {"a", `"`}, `\`: {"a", `\`}},
		`;a="b"?`:   {"blank": {"a", "b"}},
		`;a="b"?c`:  {";": {"a", "b", "c", ""}},
		`;a="b"?;c`: {"blank": {"a", "b", "c", ""}},
		`;a=?"b"`:   {},
		`;a="b?`:    {`"`: {"a", "b"}},
		`?a`:        {";": {"a", ""}},
	} {
		for i := range 256 {
			c := string([]byte{byte(i)})
			in := strings.ReplaceAll(form, "?", c)
			l, ok := wants[kind(byte(i))]
			var want []string
			for _, s := range l {
				want = append(want, strings.ReplaceAll(s, "?", c))
			}
			if ok {
				holdParams(t, in, want...)
			} else {
				holdNoParams(t, in)
			}
		}
	}
}

// sixteen is that many of them, and what is told of them.
func sixteen(one, name, value string) (string, []string) {
	var want []string
	for range 16 {
		want = append(want, name, value)
	}
	return strings.Repeat(one, 16), want
}

// P9.3: 16 of them may be, and no more, of whatever form.
func TestParamsAtTheLimit(t *testing.T) {
	for _, c := range []struct{ one, name, value string }{
		{`;a`, "a", ""}, {`;a=b`, "a", "b"}, {`;a="b;\";c"`, "a", `b;";c`}, {" ; \ta=b", "a", "b"}, {`;A=""`, "A", ""},
	} {
		all, want := sixteen(c.one, c.name, c.value)
		holdParams(t, all, want...)
		holdParams(t, all+" \t ", want...)
		holdParams(t, all[len(c.one):], want[2:]...)
		holdNoParams(t, all+c.one)
		holdNoParams(t, all+c.one+" ")
		holdNoParams(t, all+";z")
		holdNoParams(t, ";z"+all)
		holdNoParams(t, all+all)
		holdNoParams(t, strings.Repeat(all, 200))
		for _, behind := range []string{";", ";=", ";z=", `;z="`, ";;z", ",", " z", "\x00"} {
			holdNoParams(t, all+behind)
		}
	}
}

// P9.4: tokens of several values are those of all of them joined by commas.
func TestTokensOfValuesJoined(t *testing.T) {
	pieces := []string{"", " ", ",", "a", "B", " a\t", "a,b", ",b", "a, ,B,", "a b", "/", "a,\n,b"}
	hold := func(values ...string) {
		t.Helper()
		got, ok := list.Tokens(values...)
		joined, joinedOK := list.Tokens(strings.Join(values, ","))
		if ok != joinedOK || !slices.Equal(got, joined) {
			t.Errorf("Tokens(%q) = %q, %v; joined %q, %v", values, got, ok, joined, joinedOK)
		}
		for _, token := range []string{"a", "B", "", "c"} {
			holdHas(t, list.Has(token, strings.Join(values, ",")), token, values...)
		}
	}
	hold()
	for _, a := range pieces {
		hold(a)
		for _, b := range pieces {
			hold(a, b)
			for _, c := range pieces {
				hold(a, b, c)
				hold(b, c, a, b)
			}
		}
	}
}

// answers is all that the package answers of three texts.
func answers(a, b, c string) string {
	tokens, tokensOK := list.Tokens(a, b, c)
	text, n := list.Quoted(a)
	params, paramsOK := list.Params(a)
	return fmt.Sprintf("%q", []any{tokens, tokensOK, list.Has(a, b, c), list.Has(b, a), text, n, params, paramsOK})
}

// P9.4: what is answered depends on the arguments alone: not on what was asked before, nor on who asks meanwhile.
func TestAnswersDependOnArgumentsAlone(t *testing.T) {
	all, _ := sixteen(`;a=b`, "", "")
	texts := []string{"", "a", "A, b", "c,,", "a b", `"a"`, `"\"`, `"\"b"c`, `;a`, `; a=1;b="c"`, `;a=`, all, all + ";a", "\xff\x00"}
	ask := func() []string {
		var l []string
		for _, a := range texts {
			for _, b := range texts {
				l = append(l, answers(a, b, "d"), answers(b, a, ""))
			}
		}
		return l
	}
	want := ask()
	slices.Reverse(texts)
	ask()
	slices.Reverse(texts)
	var wait sync.WaitGroup
	got := make([][]string, 4)
	for i := range got {
		wait.Go(func() { got[i] = ask() })
	}
	wait.Wait()
	for i := range got {
		if !slices.Equal(got[i], want) {
			t.Errorf("asker %d is answered otherwise", i)
		}
	}
}

// W6: a list that is handed in is left as it is, spare room too, whatever is answered.
func TestValuesAreLeftAlone(t *testing.T) {
	for _, l := range [][]string{{"A, b", "C", "SPARE", "ROOM"}, {"A", "b c", "SPARE", "ROOM"}} {
		before := slices.Clone(l)
		list.Tokens(l[:2]...)
		list.Has("A", l[:2]...)
		if !slices.Equal(l, before) {
			t.Errorf("%q came of %q", l, before)
		}
	}
}

// W6, W7: an answer stays what it is when the values are changed afterwards, their bytes too.
func TestValuesThatAreChangedAfterwards(t *testing.T) {
	values := []string{"a,b", "c"}
	tokens, _ := list.Tokens(values...)
	values[0], values[1] = "x", "y z"
	if !slices.Equal(tokens, []string{"a", "b", "c"}) {
		t.Errorf("Tokens became %q", tokens)
	}
	bytes := []byte(`"long text"; name=value;other="text of it"`)
	s := unsafe.String(&bytes[0], len(bytes))
	text, n := list.Quoted(s)
	params, ok := list.Params(s[n:])
	words, _ := list.Tokens(s[n+2 : n+6])
	for i := range bytes {
		bytes[i] = '?'
	}
	if text != "long text" || n != 11 || !slices.Equal(words, []string{"name"}) {
		t.Errorf("Quoted became %q, %d, Tokens %q", text, n, words)
	}
	if !ok || !slices.Equal(params, []list.Param{{Name: "name", Value: "value"}, {Name: "other", Value: "text of it"}}) {
		t.Errorf("Params became %q", params)
	}
}

// W6, W7: an answer that is changed afterwards, spare room too, changes no other one.
func TestAnswersThatAreChangedAfterwards(t *testing.T) {
	values := []string{"a,b,c", "d,e"}
	first, _ := list.Tokens(values...)
	second, _ := list.Tokens(values...)
	one, _ := list.Params(";a=b;c;d")
	two, _ := list.Params(";a=b;c;d")
	for i := range first[:cap(first)] {
		first[:cap(first)][i] = "changed"
	}
	for i := range one[:cap(one)] {
		one[:cap(one)][i] = list.Param{Name: "changed", Value: "changed"}
	}
	if want := []string{"a", "b", "c", "d", "e"}; !slices.Equal(second, want) {
		t.Errorf("Tokens became %q", second)
	}
	if want := []list.Param{{Name: "a", Value: "b"}, {Name: "c"}, {Name: "d"}}; !slices.Equal(two, want) {
		t.Errorf("Params became %q", two)
	}
	if !slices.Equal(values, []string{"a,b,c", "d,e"}) {
		t.Errorf("the values became %q", values)
	}
	holdTokens(t, values, "a", "b", "c", "d", "e")
	holdParams(t, ";a=b;c;d", "a", "b", "c", "", "d", "")
}

// shares tells whether two texts lie in the same memory.
func shares(a, b string) bool {
	from, to := uintptr(unsafe.Pointer(unsafe.StringData(a))), uintptr(unsafe.Pointer(unsafe.StringData(b)))
	return from < to+uintptr(len(b)) && to < from+uintptr(len(a))
}

// W6: what is answered is new memory, where nothing had to change too, and no two texts of one answer share any.
func TestAnswersAreNewMemory(t *testing.T) {
	const in = `"content length"; first=chunked; second="two words"; third`
	text, n := list.Quoted(in)
	params, _ := list.Params(in[n:])
	const values = "content-length, other-one"
	tokens, _ := list.Tokens(values)
	texts := append([]string{text}, tokens...)
	for _, p := range params {
		texts = append(texts, p.Name)
		if p.Value != "" {
			texts = append(texts, p.Value)
		}
	}
	if len(texts) != 8 {
		t.Fatalf("told %q", texts)
	}
	for i, a := range texts {
		if shares(a, in) || shares(a, values) {
			t.Errorf("%q shares the argument's memory", a)
		}
		for _, b := range texts[:i] {
			if shares(a, b) {
				t.Errorf("%q shares memory with %q", a, b)
			}
		}
	}
}
