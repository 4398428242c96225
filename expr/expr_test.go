package expr

import (
	"math"
	"math/rand/v2"
	"reflect"
	"slices"
	"strconv"
	"strings"
	"testing"

	"gristmill/api"
	"gristmill/internal/exprs"
	"gristmill/internal/memtest"
)

// P9.1

func TestName(t *testing.T) {
	for op, want := range exprs.Names() {
		if got := Name(op); got != want {
			t.Errorf("Name(%d) = %q, want %q", op, got, want)
		}
	}
	for _, op := range noOps {
		if got := Name(op); got != "" {
			t.Errorf("Name(%d) = %q", op, got)
		}
	}
}

func TestNameOfTheConstants(t *testing.T) {
	for op, want := range map[int]string{
		api.OpConst: "const", api.OpLine: "line", api.OpOff: "off", api.OpWord: "word", api.OpNum: "num", api.OpKey: "key", api.OpAcc: "acc", api.OpCount: "count",
		api.OpAdd: "add", api.OpSub: "sub", api.OpMul: "mul", api.OpDiv: "div", api.OpMod: "mod", api.OpNeg: "neg", api.OpEq: "eq", api.OpLt: "lt",
		api.OpAnd: "and", api.OpOr: "or", api.OpNot: "not", api.OpIf: "if", api.OpLen: "len", api.OpCat: "cat", api.OpCut: "cut",
		api.OpInt: "int", api.OpStr: "str", api.OpField: "field", api.OpUpper: "upper", api.OpFind: "find",
	} {
		if got := Name(op); got != want {
			t.Errorf("Name(%d) = %q, want %q", op, got, want)
		}
	}
}

func checkFind(t *testing.T, s string) {
	t.Helper()
	want := slices.Index(exprs.Names(), s)
	op, ok := Find(s)
	if ok != (want >= 0) || op != max(want, 0) {
		t.Errorf("Find(%.40q) = %d, %t; want %d, %t", s, op, ok, max(want, 0), want >= 0)
	}
}

func TestFind(t *testing.T) {
	for _, s := range exprs.Names() {
		checkFind(t, s)
		for _, other := range []string{strings.ToUpper(s), strings.ToUpper(s[:1]) + s[1:], s + s, s + " ", " " + s, s + "\x00", "\x00" + s, s + "s", "(" + s, s + "\n", "\"" + s + "\"", s + strings.Repeat("x", api.MaxItem)} {
			checkFind(t, other)
		}
		for cut := range s {
			checkFind(t, s[:cut])
			checkFind(t, s[cut:])
			for _, c := range []string{"a", "x", "", "\x00", "\xff", "0"} {
				checkFind(t, s[:cut]+c+s[cut+1:])
			}
		}
	}
	for _, s := range append(memtest.Rising(), "", "0", "8", "nop", "error", "none", "Ops", "konst", "ａｄｄ") {
		checkFind(t, s)
	}
}

func TestFindOfAllShortWords(t *testing.T) {
	for _, b := range memtest.Short([]byte("abcdefghijklmnopqrstuvwxyz"), 3) {
		checkFind(t, string(b))
	}
}

func TestArity(t *testing.T) {
	for op := range 28 {
		if got := Arity(op); got != exprs.Arity(op) {
			t.Errorf("Arity of %s = %d, want %d", exprs.Name(op), got, exprs.Arity(op))
		}
	}
	for _, op := range noOps {
		if got := Arity(op); got != -1 {
			t.Errorf("Arity(%d) = %d", op, got)
		}
	}
}

// P9.2

func checkSize(t *testing.T, x api.Expr, size, deep int) {
	t.Helper()
	if got := Size(x); got != size {
		t.Errorf("Size of %.80q = %d, want %d", text(x), got, size)
	}
	if got := Deep(x); got != deep {
		t.Errorf("Deep of %.80q = %d, want %d", text(x), got, deep)
	}
}

func TestSizeAndDeepKnown(t *testing.T) {
	off, add := exprs.Call(api.OpOff), exprs.Call(api.OpAdd, exprs.Call(api.OpOff), exprs.Number(5))
	checkSize(t, api.Expr{}, 1, 1)
	checkSize(t, api.Expr{Args: []api.Expr{}}, 1, 1)
	checkSize(t, off, 1, 1)
	checkSize(t, exprs.Call(99), 1, 1)
	checkSize(t, add, 3, 2)
	checkSize(t, exprs.Call(api.OpNeg, add), 4, 3)
	checkSize(t, exprs.Call(api.OpIf, off, add, off), 6, 3)
	checkSize(t, exprs.Call(api.OpIf, exprs.Nested(off, 3), add, off), 9, 5)
	checkSize(t, exprs.Call(api.OpIf, off, add, exprs.Nested(off, 3)), 9, 5)
	// Neither depends on what the operation takes.
	checkSize(t, exprs.Call(api.OpConst, add, off), 5, 3)
	checkSize(t, exprs.Call(-1, off, off, off, off, off), 6, 2)
	checkSize(t, exprs.Call(28, exprs.Nested(off, 1)), 3, 3)
}

func TestSizeAndDeepByDefinition(t *testing.T) {
	for _, x := range append(exprs.Valid(), wildOnes()...) {
		checkSize(t, x, len(exprs.Every(x)), depth(x))
	}
}

func TestSizeAndDeepHaveNoLimit(t *testing.T) {
	for _, n := range []int{19, 20, 21, 199, 200, 201, 1000, 1<<16 - 1} {
		checkSize(t, exprs.Nested(exprs.Number(1), n), n+1, n+1)
		checkSize(t, exprs.Call(api.OpAdd, make([]api.Expr, n)...), n+1, 2)
		checkSize(t, exprs.Call(api.OpAdd, exprs.Nested(exprs.Number(1), n), exprs.Number(1)), n+3, n+2)
		checkSize(t, exprs.Call(api.OpAdd, exprs.Number(1), exprs.Nested(exprs.Number(1), n)), n+3, n+2)
	}
	shared := exprs.Number(1)
	for range 16 {
		shared = exprs.Call(api.OpAdd, shared, shared)
	}
	checkSize(t, shared, 1<<17-1, 17)
}

func checkRight(t *testing.T, x api.Expr, want api.Errno) {
	t.Helper()
	if got := Right(x); got != want {
		t.Errorf("Right of %.80q = %d, want %d", text(x), got, want)
	}
}

func TestRightByDefinition(t *testing.T) {
	for _, x := range exprs.Valid() {
		checkRight(t, x, api.OK)
	}
	for _, x := range wildOnes() {
		checkRight(t, x, right(x))
	}
}

func TestRightAtTheLimits(t *testing.T) {
	for n := 1; n <= 200; n++ {
		checkRight(t, exprs.Sized(n), api.OK)
	}
	for n := 201; n <= 300; n++ {
		checkRight(t, exprs.Sized(n), api.ErrMany)
	}
	for n := range 20 {
		checkRight(t, exprs.Nested(exprs.Number(1), n), api.OK)
		checkRight(t, exprs.Nested(exprs.Call(api.OpKey), n), api.OK)
	}
	for _, n := range []int{20, 21, 22, 100, 198, 199} {
		checkRight(t, exprs.Nested(exprs.Number(1), n), api.ErrRange)
	}
	for _, n := range []int{200, 201, 1000, 1<<16 - 1} {
		checkRight(t, exprs.Nested(exprs.Number(1), n), api.ErrMany)
	}
}

func TestRightAtTheLimitOfStrings(t *testing.T) {
	// A string has so many bytes, whatever they are and however they are told.
	for _, pair := range []string{"aa", "\"\\", "\x00\xff", "é", "  "} {
		for _, n := range []int{0, 2, api.MaxItem - 2, api.MaxItem} {
			checkRight(t, exprs.Str(strings.Repeat(pair, n/2)), api.OK)
			checkRight(t, exprs.Str(strings.Repeat(pair, n/2)[min(n, 1):]), api.OK)
		}
		for _, n := range []int{api.MaxItem + 2, api.MaxItem + 4, 2 * api.MaxItem, 2 * api.MaxBytes} {
			checkRight(t, exprs.Str(strings.Repeat(pair, n/2)), api.ErrLong)
			checkRight(t, exprs.Str(strings.Repeat(pair, n/2)[1:]), api.ErrLong)
		}
	}
}

func TestRightLooksAtTheDeepestArgument(t *testing.T) {
	off := exprs.Call(api.OpOff)
	for _, x := range []struct {
		levels int
		want   api.Errno
	}{{19, api.OK}, {20, api.ErrRange}} {
		deep := exprs.Nested(off, x.levels-1)
		checkRight(t, exprs.Call(api.OpIf, deep, off, off), x.want)
		checkRight(t, exprs.Call(api.OpIf, off, deep, off), x.want)
		checkRight(t, exprs.Call(api.OpIf, off, off, deep), x.want)
	}
}

func TestRightOfEachNumberOfArguments(t *testing.T) {
	ops := slices.Clone(noOps)
	for op := range 28 {
		ops = append(ops, op)
	}
	for _, op := range ops {
		for n := range 6 {
			want := api.ErrForm
			if n == exprs.Arity(op) {
				want = api.OK
			}
			x := exprs.Call(op, make([]api.Expr, n)...)
			checkRight(t, x, want)
			checkRight(t, exprs.Call(api.OpCat, exprs.Number(1), x), want)
		}
		checkRight(t, exprs.Call(op, make([]api.Expr, 199)...), api.ErrForm)
		checkRight(t, exprs.Call(op, make([]api.Expr, 200)...), api.ErrMany)
	}
}

func TestRightLooksEverywhere(t *testing.T) {
	long := exprs.Str(strings.Repeat("a", api.MaxItem+1))
	whole := exprs.Call(api.OpIf, exprs.Call(api.OpLt, exprs.Call(api.OpOff), exprs.Number(-5)), exprs.Call(api.OpField, exprs.Call(api.OpLine), exprs.Str(" "), exprs.Nested(exprs.Number(1), 2)), exprs.Sized(30))
	for i := range exprs.Every(whole) {
		checkRight(t, replaced(whole, i, exprs.Str("a")), api.OK)
		checkRight(t, replaced(whole, i, long), api.ErrLong)
		checkRight(t, replaced(whole, i, exprs.Sized(201)), api.ErrMany)
		checkRight(t, replaced(whole, i, exprs.Nested(exprs.Number(1), 20)), api.ErrRange)
		for _, bad := range []api.Expr{exprs.Call(-1), exprs.Call(28), exprs.Call(api.OpNeg), exprs.Call(api.OpAdd, exprs.Number(1)), exprs.Call(api.OpLine, exprs.Number(1)), exprs.Call(api.OpConst, exprs.Number(1)), exprs.Call(api.OpIf, long, long)} {
			checkRight(t, replaced(whole, i, bad), api.ErrForm)
		}
	}
}

// rotations returns the items beginning at each of them.
func rotations(l []api.Expr) [][]api.Expr {
	var all [][]api.Expr
	for i := range l {
		all = append(all, slices.Concat(l[i:], l[:i]))
	}
	return all
}

func TestRightNamesTheFirstError(t *testing.T) {
	errors := []api.Errno{api.ErrMany, api.ErrRange, api.ErrForm, api.ErrLong}
	for set := range 16 {
		l := []api.Expr{exprs.Sized(201), exprs.Nested(exprs.Number(1), 18), exprs.Call(28), exprs.Str(strings.Repeat("a", api.MaxItem+1))}
		want := api.OK
		for i := 3; i >= 0; i-- {
			if set>>i&1 == 1 {
				want = errors[i]
			} else {
				l[i] = exprs.Number(1)
			}
		}
		for _, order := range rotations(l) {
			checkRight(t, exprs.Call(api.OpAdd, exprs.Call(api.OpAdd, order[0], order[1]), exprs.Call(api.OpAdd, order[2], order[3])), want)
		}
	}
}

func TestRightTakesOnlyStringsOfConstsForLong(t *testing.T) {
	long := strings.Repeat("a", api.MaxItem+1)
	for _, v := range memtest.Disguised(api.Val{Text: long}) {
		v.Text = long
		checkRight(t, api.Expr{Val: v}, api.OK)
	}
	for kind := 1; kind < 256; kind++ {
		checkRight(t, api.Expr{Val: api.Val{Kind: uint8(kind), Text: long}}, api.ErrLong)
		checkRight(t, api.Expr{Val: api.Val{Kind: uint8(kind), Text: long[1:]}}, api.OK)
	}
	for op := 1; op < 28; op++ {
		checkRight(t, api.Expr{Op: op, Val: api.Val{Kind: 1, Text: long}, Args: make([]api.Expr, exprs.Arity(op))}, api.OK)
	}
}

func TestRightEndsEarly(t *testing.T) {
	// So many parts that nobody could visit them all.
	for _, leaf := range []api.Expr{exprs.Number(1), exprs.Call(28), exprs.Str(strings.Repeat("a", api.MaxItem+1))} {
		x := leaf
		for range 1000 {
			x = exprs.Call(api.OpAdd, x, x)
		}
		// Its text would be as long: a failed check cannot tell it.
		if e := Right(x); e != api.ErrMany {
			t.Errorf("Right = %d", e)
		}
	}
}

func checkSame(t *testing.T, x, y api.Expr, want bool) {
	t.Helper()
	if got := Same(x, y); got != want {
		t.Errorf("Same(%.80q, %.80q) = %t", spelled(x), spelled(y), got)
	}
	if got := Same(y, x); got != want {
		t.Errorf("Same(%.80q, %.80q) = %t", spelled(y), spelled(x), got)
	}
}

func TestSameOfAllPairs(t *testing.T) {
	r := rand.New(rand.NewPCG(9, 3))
	for _, l := range [][]api.Expr{exprs.Valid(), wildOnes()} {
		// All pairs of some of them, and each beside itself.
		some := append(slices.Clone(l[:60]), l[len(l)-300:]...)
		for range 300 {
			some = append(some, l[r.IntN(len(l))])
		}
		told := make([]string, len(some))
		for i, x := range some {
			told[i] = spelled(x)
		}
		for i, x := range some {
			for j, y := range some {
				if got := Same(x, y); got != (told[i] == told[j]) {
					t.Errorf("Same(%.80q, %.80q) = %t", told[i], told[j], got)
				}
			}
		}
		for _, x := range l {
			checkSame(t, x, x, true)
		}
	}
}

func TestSameSeesEachChange(t *testing.T) {
	whole := exprs.Call(api.OpIf, exprs.Call(api.OpLt, exprs.Call(api.OpOff), exprs.Number(-5)), exprs.Call(api.OpField, exprs.Call(api.OpLine), exprs.Str("-5"), exprs.Nested(exprs.Number(1), 2)), exprs.Call(28, exprs.Call(api.OpConst, exprs.Number(1), exprs.Call(-1))))
	others := append(exprs.Few(), exprs.Call(28), exprs.Call(-1), exprs.Call(29), exprs.Number(7), exprs.Str("a"), exprs.Call(api.OpConst, exprs.Number(1)), exprs.Call(api.OpIf, exprs.Number(1)))
	for i, part := range exprs.Every(whole) {
		for _, other := range others {
			checkSame(t, whole, replaced(whole, i, other), spelled(part) == spelled(other))
		}
		more := part
		more.Args = append(slices.Clone(part.Args), exprs.Number(1))
		checkSame(t, whole, replaced(whole, i, more), false)
		if n := len(part.Args); n > 0 {
			fewer := part
			fewer.Args = part.Args[:n-1]
			checkSame(t, whole, replaced(whole, i, fewer), false)
			fewer.Args = part.Args[1:]
			checkSame(t, whole, replaced(whole, i, fewer), false)
			turned := part
			turned.Args = slices.Concat(part.Args[1:], part.Args[:1])
			checkSame(t, whole, replaced(whole, i, turned), n == 1)
		}
	}
}

func TestSameLooksAtWhatIsMeantAlone(t *testing.T) {
	values := []api.Val{{Int: 0}, {Int: -1}, {Int: 7}, {Kind: 1, Text: ""}, {Kind: 1, Text: "-1"}, {Kind: 1, Text: "x"}}
	for i, v := range values {
		for j, w := range values {
			for _, a := range memtest.Disguised(v) {
				for _, b := range memtest.Disguised(w) {
					x, y := api.Expr{Val: a}, api.Expr{Val: b}
					if Same(x, y) != (i == j) || Same(exprs.Call(api.OpNeg, x), exprs.Call(api.OpNeg, y)) != (i == j) {
						t.Errorf("consts with the values %v and %v", a, b)
					}
				}
			}
			// Nothing but a const has a value.
			for _, op := range append([]int{1, 2, 7, 8, 13, 19, 27}, noOps...) {
				checkSame(t, api.Expr{Op: op, Val: v}, api.Expr{Op: op, Val: w}, true)
				checkSame(t, api.Expr{Op: op, Val: v, Args: exprs.Few()}, api.Expr{Op: op, Val: w, Args: exprs.Few()}, true)
			}
		}
	}
	for _, x := range []api.Expr{exprs.Number(1), exprs.Str("a"), exprs.Call(api.OpOff), exprs.Call(28)} {
		empty, spare := x, x
		empty.Args = []api.Expr{}
		spare.Args = exprs.Few()[:0]
		checkSame(t, x, empty, true)
		checkSame(t, x, spare, true)
		checkSame(t, exprs.Call(api.OpNeg, spare), exprs.Call(api.OpNeg, empty), true)
	}
}

func TestSameOfTheNumbersOfOperations(t *testing.T) {
	ops := slices.Clone(noOps)
	for op := range 28 {
		ops = append(ops, op)
	}
	for i, op := range ops {
		for j, other := range ops {
			checkSame(t, exprs.Call(op), exprs.Call(other), i == j)
			checkSame(t, exprs.Call(op, exprs.Number(1)), exprs.Call(other, exprs.Number(1)), i == j)
		}
	}
}

// P9.3

func checkText(t *testing.T, x api.Expr, want string) {
	t.Helper()
	if got := Text(x); got != want {
		t.Errorf("Text = %.200q, want %.200q", got, want)
	}
}

func TestTextKnown(t *testing.T) {
	off := exprs.Call(api.OpOff)
	checkText(t, exprs.Call(api.OpAdd, off, exprs.Number(5)), "(add off 5)")
	checkText(t, api.Expr{}, "0")
	checkText(t, exprs.Number(math.MinInt), "-9223372036854775808")
	checkText(t, exprs.Str(""), `""`)
	checkText(t, exprs.Str("-5"), `"-5"`)
	checkText(t, exprs.Call(api.OpNot, exprs.Call(api.OpNot, off)), "(not (not off))")
	checkText(t, exprs.Call(api.OpIf, exprs.Call(api.OpLt, off, exprs.Number(-5)), exprs.Call(api.OpLine), exprs.Str("a\"\\\n\xff")), `(if (lt off -5) line "a\"\\\x0a\xff")`)
	checkText(t, exprs.Call(api.OpField, exprs.Call(api.OpCat, exprs.Call(api.OpWord), exprs.Call(api.OpKey)), exprs.Str(" "), exprs.Call(api.OpCount)), `(field (cat word key) " " count)`)
	for op, want := range exprs.Names()[1:] {
		checkText(t, exprs.Call(op+1), want)
		checkText(t, api.Expr{Op: op + 1, Val: api.Val{Kind: 1, Text: "v"}}, want)
		checkText(t, exprs.Call(op+1, exprs.Number(1)), "("+want+" 1)")
	}
}

func TestTextOfWrongExpressions(t *testing.T) {
	off := exprs.Call(api.OpOff)
	// A const is told by its value, whatever its arguments.
	checkText(t, exprs.Call(api.OpConst, off), "0")
	checkText(t, api.Expr{Val: api.Val{Kind: 1, Text: "a"}, Args: []api.Expr{off, off}}, `"a"`)
	checkText(t, exprs.Call(api.OpNeg, exprs.Call(api.OpConst, off, off)), "(neg 0)")
	checkText(t, exprs.Call(api.OpAdd), "add")
	checkText(t, api.Expr{Op: api.OpAdd, Args: []api.Expr{}}, "add")
	checkText(t, exprs.Call(api.OpLine, off), "(line off)")
	checkText(t, exprs.Call(api.OpNeg, off, off, off, off), "(neg off off off off)")
	for _, op := range noOps {
		checkText(t, exprs.Call(op), "")
		checkText(t, api.Expr{Op: op, Val: api.Val{Kind: 1, Text: "a"}}, "")
		checkText(t, exprs.Call(op, off, exprs.Number(5)), "( off 5)")
		checkText(t, exprs.Call(api.OpAdd, exprs.Call(op), exprs.Call(op)), "(add  )")
	}
}

func TestTextByDefinition(t *testing.T) {
	for _, x := range append(exprs.Valid(), wildOnes()...) {
		checkText(t, x, text(x))
	}
}

func TestTextLooksAtWhatIsMeantAlone(t *testing.T) {
	for _, x := range exprs.Consts() {
		for _, v := range memtest.Disguised(x.Val) {
			checkText(t, api.Expr{Val: v}, text(x))
			checkText(t, exprs.Call(api.OpNeg, api.Expr{Val: v}), "(neg "+text(x)+")")
		}
	}
}

func TestTextHasNoLimit(t *testing.T) {
	for _, n := range []int{20, 21, 200, 201, 1<<16 - 1} {
		checkText(t, exprs.Nested(exprs.Call(api.OpOff), n), strings.Repeat("(neg ", n)+"off"+strings.Repeat(")", n))
		checkText(t, exprs.Call(api.OpAdd, make([]api.Expr, n)...), "(add"+strings.Repeat(" 0", n)+")")
	}
	for _, n := range []int{api.MaxItem, api.MaxItem + 1, 2 * api.MaxBytes} {
		checkText(t, exprs.Str(strings.Repeat("\x01", n)), `"`+strings.Repeat(`\x01`, n)+`"`)
	}
}

func checkQuote(t *testing.T, s string) {
	t.Helper()
	got := Quote(s)
	if want := quoted(s); got != want {
		t.Errorf("Quote(%.40q) = %.80q, want %.80q", s, got, want)
	}
	// What is told is a string of Go, too.
	if again, err := strconv.Unquote(got); again != s || err != nil {
		t.Errorf("Quote(%.40q) = %.80q, which is %.40q", s, got, again)
	}
}

func TestQuoteKnown(t *testing.T) {
	for s, want := range map[string]string{
		"":                       `""`,
		"a b":                    `"a b"`,
		`"`:                      `"\""`,
		`\`:                      `"\\"`,
		`\"`:                     `"\\\""`,
		`\x0a`:                   `"\\x0a"`,
		"\x00\x09\x0a\x0d\x1f":   `"\x00\x09\x0a\x0d\x1f"`,
		" !#[]~'`":               "\" !#[]~'`\"",
		"\x7e\x7f\x80\xab\xcd":   `"~\x7f\x80\xab\xcd"`,
		"\xef\xff":               `"\xef\xff"`,
		"é":                      `"\xc3\xa9"`,
		"(add off 5) # \"no\"\n": `"(add off 5) # \"no\"\x0a"`,
	} {
		if got := Quote(s); got != want {
			t.Errorf("Quote(%q) = %s, want %s", s, got, want)
		}
	}
}

func TestQuoteOfEachByte(t *testing.T) {
	for c := range 256 {
		for _, s := range []string{string([]byte{byte(c)}), string([]byte{byte(c), '0'}), string([]byte{'\\', byte(c)}), string([]byte{byte(c), byte(c)})} {
			checkQuote(t, s)
		}
		want := 6
		switch {
		case c == 34 || c == 92:
			want = 4
		case c >= 32 && c <= 126:
			want = 3
		}
		if got := Quote(string([]byte{byte(c)})); len(got) != want {
			t.Errorf("the byte %d is told as %s", c, got)
		}
	}
}

func TestQuoteOfManyStrings(t *testing.T) {
	for _, b := range memtest.Short([]byte("\"\\x0a\n\xff "), 5) {
		checkQuote(t, string(b))
	}
	for _, s := range memtest.Rising() {
		checkQuote(t, s)
	}
	for _, n := range []int{100, api.MaxItem, api.MaxItem + 1, 2 * api.MaxBytes} {
		checkQuote(t, string(memtest.Mixed(n)))
	}
}

// P9.4

func TestTextTellsValidExpressionsApart(t *testing.T) {
	texts, spellings := map[string]string{}, map[string]string{}
	for _, x := range exprs.Valid() {
		s, told := Text(x), spelled(x)
		if was, ok := texts[s]; ok && was != told {
			t.Errorf("%.80q is the text of %.80q and of %.80q", s, was, told)
		}
		if was, ok := spellings[told]; ok && was != s {
			t.Errorf("%.80q has the texts %.80q and %.80q", told, was, s)
		}
		texts[s], spellings[told] = told, s
	}
	if len(texts) < 5000 || len(texts) != len(spellings) {
		t.Errorf("%d texts of %d expressions", len(texts), len(spellings))
	}
}

func TestSameMeansTheSameText(t *testing.T) {
	all := exprs.Valid()
	r := rand.New(rand.NewPCG(9, 4))
	for range 200000 {
		x, y := all[r.IntN(len(all))], all[r.IntN(len(all))]
		if Same(x, y) != (Text(x) == Text(y)) {
			t.Errorf("%.80q and %.80q", Text(x), Text(y))
		}
	}
}

// The calls of this layer leave their arguments alone, also the spare room of them.

// roomy returns x with marks in the spare room of all arguments.
func roomy(x api.Expr) api.Expr {
	args := make([]api.Expr, 0, len(x.Args))
	for _, arg := range x.Args {
		args = append(args, roomy(arg))
	}
	x.Args = memtest.Roomy(args, exprs.Number(1234))
	return x
}

// whole returns a copy of x in which the spare room of all arguments belongs to them.
func whole(x api.Expr) api.Expr {
	room := x.Args[:cap(x.Args)]
	x.Args = nil
	for _, arg := range room {
		x.Args = append(x.Args, whole(arg))
	}
	return x
}

func TestArgumentsAreKept(t *testing.T) {
	tried := []api.Expr{exprs.Number(5), exprs.Str("a\"\n"), exprs.Sized(20), exprs.Sized(201), exprs.Nested(exprs.Number(1), 21), exprs.Call(28, exprs.Number(1), exprs.Str("a")), exprs.Call(api.OpConst, exprs.Number(1)), exprs.Call(api.OpCat, exprs.Str("b"), exprs.Str(strings.Repeat("a", api.MaxItem+1)))}
	for _, plain := range tried {
		x, y := roomy(plain), roomy(plain)
		was := whole(x)
		Size(x)
		Deep(x)
		Right(x)
		Same(x, y)
		Same(y, x)
		Text(x)
		if !reflect.DeepEqual(whole(x), was) || !reflect.DeepEqual(whole(y), was) {
			t.Errorf("%.80q was changed", text(plain))
		}
	}
}

func FuzzQuote(f *testing.F) {
	for _, s := range []string{"", "a", "\"", "\\", "\n\xff", "é"} {
		f.Add(s)
	}
	f.Fuzz(checkQuote)
}

func FuzzByDefinition(f *testing.F) {
	for seed := range uint64(20) {
		f.Add(seed, uint8(seed), seed%2 == 0)
	}
	f.Fuzz(func(t *testing.T, seed uint64, levels uint8, valid bool) {
		r, leaves := rand.New(rand.NewPCG(seed, 0)), exprs.Leaves()
		x, y := grown(r, leaves, int(levels%7)), grown(r, leaves, int(levels%3))
		if valid {
			x, y = exprs.Grown(r.IntN, leaves, int(levels%7)), exprs.Grown(r.IntN, leaves, int(levels%3))
		}
		checkSize(t, x, len(exprs.Every(x)), depth(x))
		checkRight(t, x, right(x))
		checkText(t, x, text(x))
		checkSame(t, x, x, true)
		checkSame(t, x, y, spelled(x) == spelled(y))
	})
}
