package token

import (
	"math"
	"math/rand/v2"
	"slices"
	"strings"
	"testing"
	"unsafe"

	"gristmill/api"
	"gristmill/expr"
	"gristmill/internal/exprs"
	"gristmill/internal/memtest"
)

func open(at int) api.Tok {
	return api.Tok{Kind: api.TokOpen, At: at}
}

func closed(at int) api.Tok {
	return api.Tok{Kind: api.TokClose, At: at}
}

func name(s string, at int) api.Tok {
	return api.Tok{Kind: api.TokName, Name: s, At: at}
}

func number(n int, at int) api.Tok {
	return api.Tok{Kind: api.TokVal, Val: api.Val{Kind: api.Num, Int: n}, At: at}
}

func text(s string, at int) api.Tok {
	return api.Tok{Kind: api.TokVal, Val: api.Val{Kind: api.Str, Text: s}, At: at}
}

func lineEnd(at int) api.Tok {
	return api.Tok{Kind: api.TokEnd, At: at}
}

// kinds are texts of one token each, of all kinds.
func kinds() []string {
	return []string{"(", ")", "a", "abc", "0", "-5", `""`, `"a\"\\\x0a"`, "\n"}
}

// wrongs are texts that begin with a wrong token, each with its error.
func wrongs() map[string]api.Errno {
	return map[string]api.Errno{
		"A":                    api.ErrForm,
		"-":                    api.ErrForm,
		"\t":                   api.ErrForm,
		`"`:                    api.ErrForm,
		`"\a"`:                 api.ErrForm,
		"\"\t\"":               api.ErrForm,
		"9223372036854775808":  api.ErrRange,
		"-9223372036854775809": api.ErrRange,
		`"` + strings.Repeat("a", api.MaxItem+1) + `"`: api.ErrLong,
	}
}

func checkTokens(t *testing.T, s string, want []api.Tok) {
	t.Helper()
	l, at, e := Tokens(s)
	if !slices.Equal(l, want) || at != len(s) || e != api.OK {
		t.Errorf("Tokens(%.80q) = %s, %d, %d; want %s, %d, 0", s, told(l), at, e, told(want), len(s))
	}
}

// checkWrong fails if there is another error, or anything beside it but its place.
func checkWrong(t *testing.T, s string, at int, e api.Errno) {
	t.Helper()
	if l, gotAt, gotE := Tokens(s); len(l) != 0 || gotAt != at || gotE != e {
		t.Errorf("Tokens(%.80q) = %s, %d, %d; want none, %d, %d", s, told(l), gotAt, gotE, at, e)
	}
}

func checkByDefinition(t *testing.T, s string) {
	t.Helper()
	if want, at, e := tokens(s); e != api.OK {
		checkWrong(t, s, at, e)
	} else {
		checkTokens(t, s, want)
	}
}

// P10.1

func TestTokensKnown(t *testing.T) {
	checkTokens(t, "(add 5)", []api.Tok{open(0), name("add", 1), number(5, 5), closed(6)})
	checkTokens(t, "", nil)
	checkTokens(t, "   ", nil)
	checkTokens(t, "# nothing", nil)
	checkTokens(t, "\n", []api.Tok{lineEnd(0)})
	checkTokens(t, " a # b\n c", []api.Tok{name("a", 1), lineEnd(6), name("c", 8)})
	checkTokens(t, "#\n##\n# #", []api.Tok{lineEnd(1), lineEnd(4)})
	checkTokens(t, "a#\"(\\\x00\n", []api.Tok{name("a", 0), lineEnd(6)})
	checkTokens(t, "())(", []api.Tok{open(0), closed(1), closed(2), open(3)})
	checkTokens(t, "az5z-5-0a", []api.Tok{name("az", 0), number(5, 2), name("z", 3), number(-5, 4), number(0, 6), name("a", 8)})
	checkTokens(t, "05 5 0", []api.Tok{number(5, 0), number(5, 3), number(0, 5)})
	checkTokens(t, `"""a"b"c"`, []api.Tok{text("", 0), text("a", 2), name("b", 5), text("c", 6)})
	checkTokens(t, `"a\"b" "\\" "\x00\xff\x22\x5c"`, []api.Tok{text(`a"b`, 0), text(`\`, 7), text("\x00\xff\"\\", 12)})
	checkTokens(t, `"# (a) 5"#"`, []api.Tok{text("# (a) 5", 0)})
	checkTokens(t, "\"A\x7f\x80\xff é\"", []api.Tok{text("A\x7f\x80\xff é", 0)})
	checkTokens(t, "emit (cat word \"a\\x0a\\\"\") -12 # rest\n\nfold sum", []api.Tok{
		name("emit", 0), open(5), name("cat", 6), name("word", 10), text("a\n\"", 15), closed(24), number(-12, 26), lineEnd(36), lineEnd(37), name("fold", 38), name("sum", 43)})
}

func TestTokensWrong(t *testing.T) {
	for s, at := range map[string]int{
		"A": 0, "ab A": 3, "aB": 1, "a_b": 1, "a.b": 1, "é": 0, "aé": 1, "\x00": 0, "\xff": 0,
		"\t": 0, "a\r\n": 1, "a\vb": 1, "\u00a0": 0, "5 -": 2, "-": 0, "--5": 0, "-a": 0, "- 5": 0, "5--5": 1, "+5": 0, "5.0": 1, "5,": 1, "0x10_": 4,
		"'a'": 0, "`a`": 0, "\\": 0, "\\\"": 0, "[]": 0, "a=b": 1, "//": 0, ";": 0,
		`"`: 0, `("ab`: 1, `"a\`: 0, `"a\"`: 0, `"\\\"`: 0, `"a" "`: 4, `"a"b"`: 4,
		`"\y"`: 0, `"\n"`: 0, `"\X0a"`: 0, `"\x0g"`: 0, `"\xg0"`: 0, `"\x0A"`: 0, `"\xA0"`: 0, `"\x"`: 0, `"\x0"`: 0, `"\x`: 0, `"\x0`: 0, `"\x00`: 0, `"\x 0"`: 0, `"\x+0"`: 0, `"\x0x0"`: 0, `"\0"`: 0, `"\ "`: 0,
		"\"a\nb\"": 0, "\"\t\"": 0, "\"\x00\"": 0, "\"\x1f\"": 0, "\"\\\n\"": 0, "a \"b\n\"": 2,
	} {
		checkWrong(t, s, at, api.ErrForm)
		checkByDefinition(t, s)
	}
}

func TestTokensOfAllShortTexts(t *testing.T) {
	for _, b := range memtest.Short([]byte(" \n#()az09-\"\\A"), 4) {
		checkByDefinition(t, string(b))
	}
	for _, b := range memtest.Short([]byte(" \n#(a5-\""), 5) {
		checkByDefinition(t, string(b))
	}
	for _, b := range memtest.Short([]byte("\"\\x0fg\n\xff"), 5) {
		checkByDefinition(t, "\""+string(b))
		checkByDefinition(t, "\""+string(b)+"\"")
	}
	for _, b := range memtest.Short([]byte("\"\\x8"), 7) {
		checkByDefinition(t, "\""+string(b)+"\"")
	}
}

func TestTokensOfEachByte(t *testing.T) {
	for c := range 256 {
		for _, ahead := range []string{"", "a", "5", "-", "-5", "(", ")", " ", "\n", "#", "# a", `"`, `"a`, `""`, `"\`, `"\x`, `"\x0`, `"\x00`, `"\\`, `"\"`} {
			for _, behind := range []string{"", `"`, `0"`, `00"`, "a", "5", "\n", "\n5", " "} {
				checkByDefinition(t, ahead+string([]byte{byte(c)})+behind)
			}
		}
	}
}

func TestTokensOfAllPairsOfBytes(t *testing.T) {
	for c := range 256 {
		for d := range 256 {
			pair := string([]byte{byte(c), byte(d)})
			checkByDefinition(t, pair)
			checkByDefinition(t, `"`+pair+`"`)
			checkByDefinition(t, `"\x`+pair+`"`)
		}
	}
}

func TestNamesHaveNoLimit(t *testing.T) {
	alphabet := "abcdefghijklmnopqrstuvwxyz"
	for i := range alphabet {
		checkTokens(t, alphabet[i:]+alphabet[:i], []api.Tok{name(alphabet[i:]+alphabet[:i], 0)})
	}
	for _, n := range []int{33, 64, 65, 256, api.MaxItem, api.MaxItem + 1, 2 * api.MaxBytes} {
		s := strings.Repeat("z", n)
		checkTokens(t, s+" "+s, []api.Tok{name(s, 0), name(s, n+1)})
	}
}

func TestNumbersAtTheLimits(t *testing.T) {
	for s, n := range map[string]int{
		"9223372036854775807": math.MaxInt, "-9223372036854775808": math.MinInt, "9223372036854775806": math.MaxInt - 1, "-9223372036854775807": math.MinInt + 1,
		"0": 0, "-0": 0, "000": 0, "-007": -7, "1000000000000000000": 1e18,
	} {
		checkTokens(t, s, []api.Tok{number(n, 0)})
		checkTokens(t, "("+s+")", []api.Tok{open(0), number(n, 1), closed(1 + len(s))})
		digits, minus := strings.CutPrefix(s, "-")
		long := strings.Repeat("0", 2*api.MaxItem) + digits
		if minus {
			long = "-" + long
		}
		checkTokens(t, long+"-1", []api.Tok{number(n, 0), number(-1, len(long))})
	}
	for _, s := range []string{"9223372036854775808", "-9223372036854775809", "18446744073709551616", "18446744073709551621", "-18446744073709551616", "10000000000000000000", "99999999999999999999", strings.Repeat("9", 2*api.MaxItem), "-" + strings.Repeat("1", 2*api.MaxItem)} {
		checkWrong(t, s, 0, api.ErrRange)
		checkWrong(t, "ab "+s, 3, api.ErrRange)
		// What follows the digits is no part of it.
		checkWrong(t, "ab "+s+"A", 3, api.ErrRange)
		checkWrong(t, "\n"+s+"\n\"", 1, api.ErrRange)
	}
}

func TestStringsAtTheLimit(t *testing.T) {
	// A string has so many bytes, however they are written.
	for escape, c := range map[string]string{"a": "a", " ": " ", "#": "#", "\xff": "\xff", `\"`: `"`, `\\`: `\`, `\x00`: "\x00", `\x61`: "a"} {
		full, plain := strings.Repeat(escape, api.MaxItem), strings.Repeat(c, api.MaxItem)
		checkTokens(t, `"`+full+`"`, []api.Tok{text(plain, 0)})
		checkTokens(t, `x "`+full+`""`+full+`"`, []api.Tok{name("x", 0), text(plain, 2), text(plain, 4+len(full))})
		for _, more := range []string{"a", `\"`, `\x0a`, strings.Repeat(escape, api.MaxItem)} {
			checkWrong(t, `"`+full+more+`"`, 0, api.ErrLong)
			checkWrong(t, `x "`+more+full+`" A`, 2, api.ErrLong)
			// Whatever the length: a wrong form is told first.
			for _, bad := range []string{"", "\n", "\n\"", `\`, `\"`, `\a"`, `\x"`, `\x0g"`, "\x00\"", "\x1f"} {
				checkWrong(t, `"`+full+more+bad, 0, api.ErrForm)
			}
		}
		checkWrong(t, `"`+full, 0, api.ErrForm)
		checkWrong(t, `x "`+full+`\`, 2, api.ErrForm)
	}
}

func TestQuotedStringsAreReadBack(t *testing.T) {
	all := append(memtest.Rising(), string(memtest.Mixed(api.MaxItem)))
	for _, b := range memtest.Short([]byte("\"\\x0a\n\xff "), 4) {
		all = append(all, string(b))
	}
	for c := range 256 {
		all = append(all, string([]byte{byte(c)}))
	}
	for _, s := range all {
		q := expr.Quote(s)
		checkTokens(t, q, []api.Tok{text(s, 0)})
		checkTokens(t, " "+q+q+"a", []api.Tok{text(s, 1), text(s, 1+len(q)), name("a", 1+2*len(q))})
	}
	checkWrong(t, expr.Quote(string(memtest.Mixed(api.MaxItem+1))), 0, api.ErrLong)
}

// many returns a text of so many tokens, each written this way.
func many(kind string, n int) string {
	if strings.ContainsAny(kind, "()\n") {
		return strings.Repeat(kind, n)
	}
	return strings.Repeat(kind+" ", n)
}

// checkCount fails if there are not so many tokens, without an error.
func checkCount(t *testing.T, s string, n int) {
	t.Helper()
	if l, at, e := Tokens(s); len(l) != n || at != len(s) || e != api.OK {
		t.Errorf("Tokens(%.80q) = %d tokens, %d, %d; want %d, %d, 0", s, len(l), at, e, n, len(s))
	}
}

func TestTokensAtTheLimit(t *testing.T) {
	for _, kind := range kinds() {
		for _, n := range []int{api.MaxTok - 1, api.MaxTok} {
			checkCount(t, many(kind, n), n)
		}
	}
	full := many("abc", api.MaxTok)
	for _, behind := range []string{"    ", "#", " # a ( 5", "#" + strings.Repeat("A", 100)} {
		checkCount(t, full+behind, api.MaxTok)
	}
	s := "(\n" + many("abc", api.MaxTok-4) + "-5)"
	l, _, _ := Tokens(s)
	if end := len(s); len(l) != api.MaxTok || l[0] != open(0) || l[1] != lineEnd(1) || l[2] != name("abc", 2) || l[3] != name("abc", 6) || l[api.MaxTok-2] != number(-5, end-3) || l[api.MaxTok-1] != closed(end-1) {
		t.Error(told(l))
	}
}

func TestTokensBehindTheLimit(t *testing.T) {
	for _, kind := range kinds() {
		full := many(kind, api.MaxTok)
		checkWrong(t, full+kind, len(full), api.ErrMany)
		// What follows is not read any more.
		checkWrong(t, full+"  "+kind+" A", len(full)+2, api.ErrMany)
	}
	full := many("abc", api.MaxTok)
	for _, next := range kinds() {
		checkWrong(t, full+next, len(full), api.ErrMany)
		checkWrong(t, full+"  "+next+next, len(full)+2, api.ErrMany)
	}
	checkWrong(t, full+"# a\n", len(full)+3, api.ErrMany)
	checkWrong(t, full+full+full, len(full), api.ErrMany)
}

func TestTokensNamesTheFirstError(t *testing.T) {
	few, full := many("a", 3), many("a", api.MaxTok)
	for s, e := range wrongs() {
		for _, ahead := range []string{"", "  ", few, few + "#A\n ", full[2:], full} {
			// One that is wrong itself is not one too many.
			checkWrong(t, ahead+s, len(ahead), e)
		}
		checkWrong(t, full+"a "+s, len(full), api.ErrMany)
		checkWrong(t, "("+full+s, len(full)-1, api.ErrMany)
		for other := range wrongs() {
			checkWrong(t, few+s+"\n"+other, len(few), e)
		}
	}
}

// pieces returns a text of so many pieces, most of them right.
func pieces(r *rand.Rand, n int) string {
	l := []string{"emit", "a", "(", ")", " ", " ", "\n", "# c", "5", "-12", "-0", `"`, `"a"`, `"\x41\""`, `"#"`, "z9", "00", `"" `, "  ", " 7 "}
	bad := []string{"-", `\`, "A", "\t", `"\`, "\xff", "é"}
	var b strings.Builder
	for range n {
		if r.IntN(60) == 0 {
			b.WriteString(bad[r.IntN(len(bad))])
		} else {
			b.WriteString(l[r.IntN(len(l))])
		}
	}
	return b.String()
}

func TestTokensOfManyTexts(t *testing.T) {
	r := rand.New(rand.NewPCG(10, 1))
	right := 0
	for range 30000 {
		s := pieces(r, r.IntN(30))
		checkByDefinition(t, s)
		if _, _, e := tokens(s); e == api.OK {
			right++
		}
	}
	if right < 10000 || right > 25000 {
		t.Errorf("%d texts are right", right)
	}
	for _, n := range []int{10, 1000, api.MaxBytes} {
		checkByDefinition(t, string(memtest.Mixed(n)))
		checkByDefinition(t, "#"+string(memtest.Mixed(n)))
	}
}

func TestTokensAreNewMemory(t *testing.T) {
	s := strings.Repeat(`abc "def" 5 "\x00" xyz`+"\n", 3)
	l, _, _ := Tokens(s)
	again, _, _ := Tokens(s)
	if memtest.Shared(l, again) {
		t.Error("the lists of two calls share memory")
	}
	for _, tok := range l {
		for _, piece := range []string{tok.Name, tok.Val.Text} {
			if piece != "" && within(piece, s) {
				t.Errorf("%q keeps the text that it was read from", piece)
			}
		}
	}
}

// within tells whether the bytes of piece stand in the memory of s, which no answer shows.
func within(piece, s string) bool {
	for i := range len(s) {
		if unsafe.StringData(piece) == unsafe.StringData(s[i:]) {
			return true
		}
	}
	return false
}

// P10.2

// checkLines fails also if Lines changes its argument, or if lists share memory.
func checkLines(t *testing.T, l []api.Tok) {
	t.Helper()
	mark := name("mark", -1)
	given := memtest.Roomy(l, mark)
	got := Lines(given)
	if want := lines(l); !slices.EqualFunc(got, want, slices.Equal) {
		t.Errorf("Lines of %s: %d lines, want %d", told(l), len(got), len(want))
	}
	for i, line := range got {
		memtest.Check(t, line, given, l, mark)
		for _, other := range got[:i] {
			if memtest.Shared(line, other) {
				t.Errorf("Lines of %s: two share memory", told(l))
			}
		}
	}
	if !memtest.Kept(given, l, mark) {
		t.Errorf("Lines changed %s", told(l))
	}
	if again := Lines(given); memtest.Shared(got, again) {
		t.Errorf("Lines of %s: two answers share memory", told(l))
	}
}

func TestLinesKnown(t *testing.T) {
	for s, want := range map[string][]int{
		"":                                nil,
		"# a":                             nil,
		"\n":                              nil,
		"\n\n \n#\n":                      nil,
		"a":                               {1},
		"a\n":                             {1},
		"\na":                             {1},
		"a b 5\n(":                        {3, 1},
		"\n\na\n\n\n\"x\" ) -5\n \n7\n\n": {1, 3, 1},
		"\"\\x0a\" a \"\\x0a\"":           {3},
	} {
		l, _, e := Tokens(s)
		got := Lines(l)
		if e != api.OK || len(got) != len(want) {
			t.Errorf("%q has %d lines, want %d", s, len(got), len(want))
			continue
		}
		for i, line := range got {
			if len(line) != want[i] {
				t.Errorf("line %d of %q has %s", i, s, told(line))
			}
		}
		if all := slices.Concat(got...); !slices.Equal(all, slices.DeleteFunc(l, func(t api.Tok) bool { return t.Kind == api.TokEnd })) {
			t.Errorf("%q: %s", s, told(all))
		}
	}
	if len(Lines(nil)) != 0 || len(Lines([]api.Tok{})) != 0 {
		t.Error("no tokens have lines")
	}
}

func TestLinesOfAllShortLists(t *testing.T) {
	for _, b := range memtest.Short([]byte{0, 1, 3, 4, 5, 255}, 5) {
		l := make([]api.Tok, len(b))
		for i, kind := range b {
			l[i] = api.Tok{Kind: kind, At: 3 * i}
		}
		checkLines(t, l)
	}
}

func TestLinesGoByTheKindAlone(t *testing.T) {
	for kind := range 256 {
		k := uint8(kind)
		l := []api.Tok{name("a", 0), {Kind: k, Name: "\n", Val: api.Val{Kind: 1, Int: 5, Text: "\n"}, At: -1}, {Kind: k}, {Kind: k, At: math.MaxInt}, number(5, 0)}
		checkLines(t, l)
		want := 1
		if k == api.TokEnd {
			want = 2
		}
		if n := len(Lines(l)); n != want {
			t.Errorf("%d lines with tokens of the kind %d", n, kind)
		}
	}
}

func TestLinesOfManyLists(t *testing.T) {
	r := rand.New(rand.NewPCG(10, 2))
	for range 300 {
		var l []api.Tok
		for i := range r.IntN(60) {
			l = append(l, []api.Tok{open(i), closed(i), name("ab", i), number(-7, i), text("\n", i), lineEnd(i), lineEnd(i)}[r.IntN(7)])
		}
		checkLines(t, l)
	}
}

func TestLinesHaveNoLimit(t *testing.T) {
	for _, n := range []int{api.MaxTok, api.MaxTok + 1, 3 * api.MaxTok} {
		one := slices.Repeat([]api.Tok{name("a", 7)}, n)
		if got := Lines(one); len(got) != 1 || !slices.Equal(got[0], one) {
			t.Errorf("%d tokens in a line: %d lines", n, len(got))
		}
		each := slices.Repeat([]api.Tok{name("a", 7), lineEnd(8)}, n)
		if got := Lines(each); !slices.EqualFunc(got, lines(each), slices.Equal) {
			t.Errorf("%d tokens in a line each: %d lines", n, len(got))
		}
		if got := Lines(slices.Repeat([]api.Tok{lineEnd(8)}, n)); len(got) != 0 {
			t.Errorf("%d ends of lines: %d lines", n, len(got))
		}
	}
}

// P10.3

// tokensOf returns the tokens of the text of a valid expression, without their places.
func tokensOf(x api.Expr) []api.Tok {
	switch {
	case x.Op == api.OpConst && x.Val.Kind == api.Num:
		return []api.Tok{number(x.Val.Int, 0)}
	case x.Op == api.OpConst:
		return []api.Tok{text(x.Val.Text, 0)}
	case len(x.Args) == 0:
		return []api.Tok{name(exprs.Name(x.Op), 0)}
	}
	l := []api.Tok{open(0), name(exprs.Name(x.Op), 0)}
	for _, arg := range x.Args {
		l = append(l, tokensOf(arg)...)
	}
	return append(l, closed(0))
}

// consts returns the values of the consts of x, in order.
func consts(x api.Expr) []api.Tok {
	var l []api.Tok
	for _, part := range exprs.Every(x) {
		if part.Op == api.OpConst {
			l = append(l, tokensOf(part)...)
		}
	}
	return l
}

func checkExpression(t *testing.T, x api.Expr) {
	t.Helper()
	s := expr.Text(x)
	l, at, e := Tokens(s)
	if e != api.OK || at != len(s) || len(l) > 3*expr.Size(x) {
		t.Errorf("Tokens(%.80q) = %s, %d, %d; its size is %d", s, told(l), at, e, expr.Size(x))
	}
	var vals []api.Tok
	for i := range l {
		l[i].At = 0
		if l[i].Kind == api.TokVal {
			vals = append(vals, l[i])
		}
	}
	if !slices.Equal(vals, consts(x)) {
		t.Errorf("Tokens(%.80q) have the values %s, want %s", s, told(vals), told(consts(x)))
	}
	if !slices.Equal(l, tokensOf(x)) {
		t.Errorf("Tokens(%.80q) = %s, want %s", s, told(l), told(tokensOf(x)))
	}
}

func TestTokensOfExpressions(t *testing.T) {
	for _, x := range exprs.Valid() {
		checkExpression(t, x)
	}
	for n := 1; n <= api.MaxExpr; n++ {
		checkExpression(t, exprs.Sized(n))
	}
	for n := range api.MaxDeep {
		checkExpression(t, exprs.Nested(exprs.Number(-7), n))
	}
}

func TestTokensOfLongExpressions(t *testing.T) {
	long := exprs.Str(string(memtest.Mixed(api.MaxItem)))
	checkExpression(t, long)
	checkExpression(t, exprs.Call(api.OpCat, long, exprs.Call(api.OpCut, exprs.Str(strings.Repeat("\x00", api.MaxItem)), exprs.Number(math.MinInt), exprs.Str(strings.Repeat("\"", api.MaxItem)))))
}

func TestTokensOfDisguisedConsts(t *testing.T) {
	for _, x := range exprs.Consts() {
		for _, v := range memtest.Disguised(x.Val) {
			checkExpression(t, api.Expr{Val: v})
			checkExpression(t, exprs.Call(api.OpAdd, api.Expr{Val: v}, exprs.Number(1)))
		}
	}
}

func FuzzTokens(f *testing.F) {
	r := rand.New(rand.NewPCG(10, 3))
	for range 50 {
		f.Add(pieces(r, 20))
	}
	f.Fuzz(checkByDefinition)
}

func FuzzLines(f *testing.F) {
	f.Add([]byte{1, 5, 5, 3, 4, 5})
	f.Fuzz(func(t *testing.T, b []byte) {
		l := make([]api.Tok, min(len(b), 100))
		for i := range l {
			l[i] = api.Tok{Kind: b[i] % 7, At: i}
		}
		checkLines(t, l)
	})
}
