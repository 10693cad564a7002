package ascii_test

import (
	"fmt"
	"math"
	"slices"
	"strings"
	"sync"
	"testing"
	"unsafe"

	"usher/ascii"
)

const (
	bigLetters   = "ABCDEFGHIJKLMNOPQRSTUVWXYZ"
	smallLetters = "abcdefghijklmnopqrstuvwxyz"
	tokenBytes   = bigLetters + smallLetters + "0123456789" + "!#$%&'*+-.^_\x60|~"
)

// allBytes is a text of every byte, in order.
func allBytes() string {
	b := make([]byte, 256)
	for i := range b {
		b[i] = byte(i)
	}
	return string(b)
}

// P1.1: A to Z as a to z, all other bytes as they are.
func TestLower(t *testing.T) {
	for i := range 256 {
		s := string([]byte{byte(i)})
		want := s
		if k := strings.Index(bigLetters, s); k >= 0 {
			want = smallLetters[k : k+1]
		}
		for _, c := range []struct{ in, want string }{
			{s, want}, {s + "Q", want + "q"}, {"Q" + s, "q" + want}, {"q" + s + "0", "q" + want + "0"},
		} {
			if got := ascii.Lower(c.in); got != c.want {
				t.Errorf("Lower(%q) = %q, not %q", c.in, got, c.want)
			}
		}
	}
	for in, want := range map[string]string{
		"":                         "",
		"Content-LENGTH":           "content-length",
		"@[`{":                     "@[`{",
		"\u00c4\u212a\u0130":       "\u00c4\u212a\u0130", // letters, but not of A to Z
		"\xff\xc3A\x00Z":           "\xff\xc3a\x00z",     // not UTF-8
		strings.Repeat("A", 1<<16): strings.Repeat("a", 1<<16),
	} {
		if got := ascii.Lower(in); got != want {
			t.Errorf("Lower(%.40q) = %.40q, not %.40q", in, got, want)
		}
	}
}

// P1.1: Same holds just where the Lowers are one, byte against byte.
func TestSameBytes(t *testing.T) {
	for i := range 256 {
		for k := range 256 {
			a, b := string([]byte{'x', byte(i)}), string([]byte{'X', byte(k)})
			pair := i == k || i+32 == k && i >= 'A' && i <= 'Z' || k+32 == i && k >= 'A' && k <= 'Z'
			if got := ascii.Same(a, b); got != pair {
				t.Errorf("Same(%q, %q) = %v", a, b, got)
			}
		}
	}
}

// P1.1: texts of other lengths, of no byte, and of letters that are not ASCII.
func TestSameTexts(t *testing.T) {
	for _, c := range []struct {
		a, b string
		want bool
	}{
		{"Host", "hOST", true},
		{"", "", true},
		{"", "a", false},
		{"a", "", false},
		{"host", "hos", false},
		{"hos", "host", false},
		{"host", "host ", false},
		{"host", "tsoh", false},
		{"a-b_c9", "A-B_C9", true},
		{"K", "\u212a", false},
		{"\u00e4", "\u00c4", false},
		{"\xc4", "\xe4", false},
		{"aBc\x00", "AbC\x00", true},
	} {
		if got := ascii.Same(c.a, c.b); got != c.want {
			t.Errorf("Same(%q, %q) = %v", c.a, c.b, got)
		}
	}
}

// P1.1: the bytes 09 and 20 go at both ends, and no others, and none inside.
func TestTrim(t *testing.T) {
	for i := range 256 {
		s := string([]byte{byte(i)})
		want := s
		if i == 0x09 || i == 0x20 {
			want = ""
		}
		for _, in := range []string{s, " " + s, s + " ", "\t" + s, s + "\t", " \t " + s + "\t \t"} {
			if got := ascii.Trim(in); got != want {
				t.Errorf("Trim(%q) = %q, not %q", in, got, want)
			}
		}
		in := "a" + s + "b"
		if got := ascii.Trim(" " + in + "\t"); got != in {
			t.Errorf("Trim of %q within blanks = %q", in, got)
		}
	}
	for in, want := range map[string]string{
		"":                                 "",
		" ":                                "",
		"\t \t":                            "",
		" a b\tc ":                         "a b\tc",
		"\u00a0a\u2003":                    "\u00a0a\u2003", // blanks, but not these two
		"\r\n a \r\n":                      "\r\n a \r\n",
		strings.Repeat(" \t", 1<<15) + "x": "x",
		"x" + strings.Repeat("\t ", 1<<15): "x",
	} {
		if got := ascii.Trim(in); got != want {
			t.Errorf("Trim(%.40q) = %.40q, not %.40q", in, got, want)
		}
	}
}

// P1.1: one behind the other, with nothing between; no argument to Join. Ways: Join is variadic.
func TestJoin(t *testing.T) {
	var join func(...string) string = ascii.Join
	for _, c := range []struct {
		in   []string
		want string
	}{
		{nil, ""},
		{[]string{}, ""},
		{[]string{""}, ""},
		{[]string{"", "", ""}, ""},
		{[]string{"one"}, "one"},
		{[]string{"b", "a"}, "ba"},
		{[]string{"a", "", " b ", "\x00", "\xff"}, "a b \x00\xff"},
	} {
		if got := join(c.in...); got != c.want {
			t.Errorf("Join(%q) = %q, not %q", c.in, got, c.want)
		}
	}
	if ascii.Join() != "" || ascii.Join("a", "b", "c") != "abc" {
		t.Error("Join of arguments one by one")
	}
}

// P1.2: a token has at least one byte, and each one is of the list, wherever it stands.
func TestIsToken(t *testing.T) {
	for i := range 256 {
		s := string([]byte{byte(i)})
		want := strings.Contains(tokenBytes, s)
		for _, in := range []string{s, s + "a", "a" + s, "a" + s + "a"} {
			if got := ascii.IsToken(in); got != want {
				t.Errorf("IsToken(%q) = %v", in, got)
			}
		}
	}
	for in, want := range map[string]bool{
		"":                                false,
		"a b":                             false,
		"a,b":                             false,
		"a:":                              false,
		"\u00e4":                          false,
		"GET":                             true,
		tokenBytes:                        true,
		strings.Repeat("x", 1<<16):        true,
		strings.Repeat("x", 1<<16) + "\"": false,
	} {
		if got := ascii.IsToken(in); got != want {
			t.Errorf("IsToken(%.40q) = %v", in, got)
		}
	}
}

// P1.2: a value's bytes are 09, 20 to 7e, 80 to ff; one of no byte is a value too.
func TestIsValue(t *testing.T) {
	for i := range 256 {
		s := string([]byte{byte(i)})
		want := i == 0x09 || i >= 0x20 && i <= 0x7e || i >= 0x80 && i <= 0xff
		for _, in := range []string{s, s + "a", "a" + s, " " + s + "\t"} {
			if got := ascii.IsValue(in); got != want {
				t.Errorf("IsValue(%q) = %v", in, got)
			}
		}
	}
	for in, want := range map[string]bool{
		"":                                 true,
		"text/html; charset=\"utf-8\"":     true,
		"\u00e4\xff":                       true,
		"a\r\nb":                           false,
		"a\x7f":                            false,
		"\x00":                             false,
		strings.Repeat("x ", 1<<15):        true,
		strings.Repeat("x ", 1<<15) + "\n": false,
	} {
		if got := ascii.IsValue(in); got != want {
			t.Errorf("IsValue(%.40q) = %v", in, got)
		}
	}
}

// number is what Num or Hex should answer of a text.
type number struct {
	in   string
	want int
	ok   bool
}

func holdNumbers(t *testing.T, name string, call func(string) (int, bool), list []number) {
	t.Helper()
	for _, c := range list {
		if n, ok := call(c.in); n != c.want || ok != c.ok {
			t.Errorf("%s(%.40q) = %d, %v, not %d, %v", name, c.in, n, ok, c.want, c.ok)
		}
	}
}

// noNumbers are texts that are numbers in no base.
func noNumbers() []number {
	var l []number
	for _, s := range []string{
		"", " ", "-", "+", "-1", "+1", "-0", "1 ", " 1", "\t1", "1\n", "1_0", "1,0", "1.0", "0x1", "0X1", "0o7",
		"/", ":", "@", "`", "g", "G", "1g", "g1", "\x00", "\x80", "\xff", "\u0661", "\uff11", "1\x001",
		strings.Repeat("0", 16), strings.Repeat("1", 1<<16),
	} {
		l = append(l, number{s, 0, false})
	}
	return l
}

// P1.3: 1 to 15 decimal digits, and nothing else.
func TestNum(t *testing.T) {
	holdNumbers(t, "Num", ascii.Num, noNumbers())
	holdNumbers(t, "Num", ascii.Num, []number{
		{"0", 0, true}, {"7", 7, true}, {"9", 9, true}, {"10", 10, true}, {"1234567890", 1234567890, true},
		{"00", 0, true}, {"007", 7, true},
		{"000000000000000", 0, true}, {"000000000000001", 1, true}, // 15 digits
		{"100000000000000", 100000000000000, true}, {"999999999999999", 999999999999999, true},
		{"0000000000000000", 0, false}, {"0000000000000001", 0, false}, // 16 digits
		{"1000000000000000", 0, false}, {"9999999999999999", 0, false},
		{"99999999999999a", 0, false}, {"a99999999999999", 0, false},
		{"a", 0, false}, {"F", 0, false}, {"1e3", 0, false}, {"0b1", 0, false},
		{"18446744073709551617", 0, false}, // 1, if it wrapped
	})
}

// P1.3: 1 to 12 hexadecimal digits of either size, and nothing else.
func TestHex(t *testing.T) {
	holdNumbers(t, "Hex", ascii.Hex, noNumbers())
	holdNumbers(t, "Hex", ascii.Hex, []number{
		{"0", 0, true}, {"9", 9, true}, {"a", 10, true}, {"f", 15, true}, {"A", 10, true}, {"F", 15, true}, {"10", 16, true},
		{"0aF", 175, true}, {"beef", 0xbeef, true}, {"BeEf", 0xbeef, true},
		{"0123456789ab", 0x0123456789ab, true}, {"CDEF", 0xcdef, true},
		{"000000000000", 0, true}, {"000000000001", 1, true}, // 12 digits
		{"100000000000", 1 << 44, true}, {"ffffffffffff", 1<<48 - 1, true}, {"FFFFFFFFFFFF", 1<<48 - 1, true},
		{"0000000000000", 0, false}, {"0000000000001", 0, false}, // 13 digits
		{"1000000000000", 0, false}, {"fffffffffffff", 0, false},
		{"fffffffffffg", 0, false}, {"gfffffffffff", 0, false},
		{"10000000000000001", 0, false}, // 1, if it wrapped
	})
}

// P1.3: each single byte is the digit that it is, and none besides.
func TestDigits(t *testing.T) {
	for i := range 256 {
		s := string([]byte{byte(i)})
		num := strings.Index("0123456789", s)
		hex := strings.Index("0123456789abcdef", s)
		if hex < 0 {
			hex = strings.Index("0123456789ABCDEF", s)
		}
		holdNumbers(t, "Num", ascii.Num, []number{{s, max(num, 0), num >= 0}})
		holdNumbers(t, "Hex", ascii.Hex, []number{{s, max(hex, 0), hex >= 0}})
	}
}

// P1.3: without noughts ahead, in small letters; below 0 as 0.
func TestDecAndHexText(t *testing.T) {
	for _, c := range []struct {
		n        int
		dec, hex string
	}{
		{0, "0", "0"}, {1, "1", "1"}, {9, "9", "9"}, {10, "10", "a"}, {15, "15", "f"}, {16, "16", "10"},
		{99, "99", "63"}, {100, "100", "64"}, {120, "120", "78"}, {175, "175", "af"}, {0xabcdef, "11259375", "abcdef"},
		{999999999999999, "999999999999999", "38d7ea4c67fff"}, {1000000000000000, "1000000000000000", "38d7ea4c68000"},
		{1<<48 - 1, "281474976710655", "ffffffffffff"}, {1 << 48, "281474976710656", "1000000000000"},
		{math.MaxInt64, "9223372036854775807", "7fffffffffffffff"},
		{-1, "0", "0"}, {-5, "0", "0"}, {-175, "0", "0"}, {math.MinInt64, "0", "0"},
	} {
		if got := ascii.Dec(c.n); got != c.dec {
			t.Errorf("Dec(%d) = %q, not %q", c.n, got, c.dec)
		}
		if got := ascii.HexText(c.n); got != c.hex {
			t.Errorf("HexText(%d) = %q, not %q", c.n, got, c.hex)
		}
	}
}

// roundNumbers are numbers about each power of both bases.
func roundNumbers() []int {
	l := []int{math.MaxInt64}
	for _, base := range []int{2, 10, 16} {
		for n := 1; n < 1<<58; n *= base {
			l = append(l, n-1, n, n+1)
		}
	}
	return l
}

// P1.4: Num of Dec and Hex of HexText are the number, as long as it has so many digits; else nothing.
func TestRoundTrips(t *testing.T) {
	for _, n := range roundNumbers() {
		num, hex := number{ascii.Dec(n), 0, false}, number{ascii.HexText(n), 0, false}
		if n < 1e15 {
			num.want, num.ok = n, true
		}
		if n < 1<<48 {
			hex.want, hex.ok = n, true
		}
		holdNumbers(t, "Num", ascii.Num, []number{num})
		holdNumbers(t, "Hex", ascii.Hex, []number{hex, {strings.ToUpper(hex.in), hex.want, hex.ok}})
	}
}

// answers is all that the package answers of two texts and a number.
func answers(a, b string, n int) string {
	num, numOK := ascii.Num(a)
	hex, hexOK := ascii.Hex(a)
	return fmt.Sprintf("%#v", []any{ascii.Lower(a), ascii.Same(a, b), ascii.IsToken(a), ascii.IsValue(a), ascii.Trim(a),
		num, numOK, hex, hexOK, ascii.Dec(n), ascii.HexText(n), ascii.Join(a, b), ascii.Join(b, a, b)})
}

// P1.4: what is answered depends on the arguments alone: not on what was asked before, nor on who asks meanwhile.
func TestAnswersDependOnArgumentsAlone(t *testing.T) {
	texts := []string{"", "0", "aF", " Host\t", "12345", "\xff\x00", "999999999999999", "0000000000000000", allBytes()}
	ask := func() []string {
		var l []string
		for i, a := range texts {
			for k, b := range texts {
				l = append(l, answers(a, b, i*1000-k*500))
			}
		}
		return l
	}
	want := ask()
	slices.Reverse(texts)
	ask()
	slices.Reverse(texts)
	var wait sync.WaitGroup
	got := make([][]string, 4)
	for i := range got {
		wait.Go(func() { got[i] = ask() })
	}
	wait.Wait()
	for i := range got {
		if !slices.Equal(got[i], want) {
			t.Errorf("asker %d is answered otherwise", i)
		}
	}
}

// W6: Join leaves its list as it is, spare room too.
func TestJoinLeavesItsList(t *testing.T) {
	room := []string{"a", "b", "spare", "room"}
	if got := ascii.Join(room[:2]...); got != "ab" {
		t.Errorf("Join = %q", got)
	}
	if !slices.Equal(room, []string{"a", "b", "spare", "room"}) {
		t.Errorf("Join changed its list: %q", room)
	}
}

// shares tells whether two texts lie in the same memory.
func shares(a, b string) bool {
	from, to := uintptr(unsafe.Pointer(unsafe.StringData(a))), uintptr(unsafe.Pointer(unsafe.StringData(b)))
	return from < to+uintptr(len(b)) && to < from+uintptr(len(a))
}

// W6: what is answered is new memory, where nothing had to change too.
func TestAnswersAreNewMemory(t *testing.T) {
	for _, s := range []string{"content-length", "  content-length\t"} {
		for name, got := range map[string]string{
			"Lower": ascii.Lower(s), "Trim": ascii.Trim(s), "Join": ascii.Join(s), "Join of two": ascii.Join("", s),
		} {
			if shares(got, s) {
				t.Errorf("%s(%q) shares its argument's memory", name, s)
			}
		}
	}
}
