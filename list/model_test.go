package list_test

import (
	"regexp"
	"slices"
	"strings"
	"testing"

	"usher/list"
)

// The model is the document's words as expressions, over texts whose bytes are written as one letter each.
const (
	blankForm  = `[\t ]*`
	tokenForm  = "[!#$%&'*+\\-.^_\x60|~0-9A-Za-z]+"
	quotedForm = `"((?:[\t !#-\[\]-~\x{80}-\x{ff}]|\\[\t -~\x{80}-\x{ff}])*)"`
	paramForm  = blankForm + `;` + blankForm + `(` + tokenForm + `)(?:=(?:(` + tokenForm + `)|` + quotedForm + `))?`
)

var (
	partModel   = regexp.MustCompile(`\A` + blankForm + `(` + tokenForm + `)?` + blankForm + `\z`)
	quotedModel = regexp.MustCompile(`\A` + quotedForm)
	paramModel  = regexp.MustCompile(paramForm)
	paramsModel = regexp.MustCompile(`\A(?:` + paramForm + `){0,16}` + blankForm + `\z`)
	escaped     = regexp.MustCompile(`(?s)\\(.)`)
)

// letters are a text's bytes, each as the letter of its number.
func letters(s string) string {
	var l []rune
	for i := range len(s) {
		l = append(l, rune(s[i]))
	}
	return string(l)
}

// bytesOf is the text of such letters.
func bytesOf(s string) string {
	var b []byte
	for _, r := range s {
		b = append(b, byte(r))
	}
	return string(b)
}

func modelTokens(values []string) ([]string, bool) {
	var l []string
	for _, v := range values {
		for _, part := range strings.Split(v, ",") {
			m := partModel.FindStringSubmatch(letters(part))
			if m == nil {
				return nil, false
			}
			if m[1] != "" {
				l = append(l, lower(m[1]))
			}
		}
	}
	return l, true
}

func modelQuoted(s string) (string, int) {
	m := quotedModel.FindStringSubmatch(letters(s))
	if m == nil {
		return "", 0
	}
	return bytesOf(escaped.ReplaceAllString(m[1], "$1")), len(bytesOf(m[0]))
}

func modelParams(s string) ([]list.Param, bool) {
	if !paramsModel.MatchString(letters(s)) {
		return nil, false
	}
	var l []list.Param
	for _, m := range paramModel.FindAllStringSubmatch(letters(s), -1) {
		l = append(l, list.Param{Name: m[1], Value: m[2] + bytesOf(escaped.ReplaceAllString(m[3], "$1"))})
	}
	return l, true
}

func holdTokensModel(t *testing.T, values ...string) {
	t.Helper()
	want, wantOK := modelTokens(values)
	if got, ok := list.Tokens(values...); ok != wantOK || !slices.Equal(got, want) {
		t.Errorf("Tokens(%s) = %s, %v, not %s, %v", short(values), short(got), ok, short(want), wantOK)
	}
	for _, token := range []string{"a", "B", "ab", "", "/"} {
		holdHas(t, slices.Contains(want, lower(token)), token, values...)
	}
}

func holdQuotedModel(t *testing.T, s string) {
	t.Helper()
	want, n := modelQuoted(s)
	holdQuoted(t, s, want, n)
}

func holdParamsModel(t *testing.T, s string) {
	t.Helper()
	want, wantOK := modelParams(s)
	if got, ok := list.Params(s); ok != wantOK || !slices.Equal(got, want) {
		t.Errorf("Params(%s) = %s, %v, not %s, %v", short(s), short(got), ok, short(want), wantOK)
	}
}

// eachText goes through all texts of at most so many of these pieces.
func eachText(pieces []string, most int, do func(string)) {
	do("")
	if most == 0 {
		return
	}
	for _, p := range pieces {
		eachFrom(p, pieces, most-1, do)
	}
}

func eachFrom(s string, pieces []string, most int, do func(string)) {
	do(s)
	if most == 0 {
		return
	}
	for _, p := range pieces {
		eachFrom(s+p, pieces, most-1, do)
	}
}

func pieces(s string) []string { return strings.Split(s, "") }

// P9.1: all short values, and all pairs of shorter ones.
func TestTokensOfAllShortTexts(t *testing.T) {
	eachText(append(pieces("aB, \t/\n"), "\xff"), 5, func(s string) { holdTokensModel(t, s) })
	eachText(pieces("aB, /"), 3, func(a string) {
		eachText(pieces("aB, /"), 3, func(b string) { holdTokensModel(t, a, b) })
	})
}

// P9.2: all short texts, behind a quote and without.
func TestQuotedOfAllShortTexts(t *testing.T) {
	eachText(append(pieces(`a" \`+"\t\n\x7f"), "\x80", "\xff"), 5, func(s string) {
		holdQuotedModel(t, s)
		holdQuotedModel(t, `"`+s)
	})
}

// P9.3: all short texts, behind beginnings of some kinds.
func TestParamsOfAllShortTexts(t *testing.T) {
	eachText(append(pieces(`;="\ aB,`), "\n"), 4, func(s string) {
		for _, ahead := range []string{``, `;a`, `;a=`, `;a="`, `;a="b"`, ` ; a=b `} {
			holdParamsModel(t, ahead+s)
		}
	})
}

// P9.3: all rows of a few parts, the words of parameters among them.
func TestParamsOfAllShortRows(t *testing.T) {
	eachText([]string{`;`, `=`, ` `, "\t", `ab`, `"c"`, `"\"`, `""`, "\xe4"}, 5, func(s string) { holdParamsModel(t, s) })
}

// P9.3: many of them in a row, right up to the limit and above it, one part of any kind between.
func TestParamsOfLongRows(t *testing.T) {
	for ahead := range 18 {
		for behind := range 18 {
			eachText([]string{`;a`, `=b`, `="\c"`, ` `, `;`}, 3, func(s string) {
				holdParamsModel(t, strings.Repeat(`;x="y"`, ahead)+s+strings.Repeat(" ;z", behind))
			})
		}
	}
}

// P9.1 to P9.3: each two bytes in a row.
func TestEachTwoBytes(t *testing.T) {
	for i := range 256 {
		for k := range 256 {
			s := string([]byte{byte(i), byte(k)})
			holdTokensModel(t, s)
			holdQuotedModel(t, `"`+s+`"`)
			holdParamsModel(t, `;a`+s+`b`)
		}
	}
}
