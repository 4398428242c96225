package val

import (
	"bytes"
	"cmp"
	"fmt"
	"math"
	"math/big"
	"regexp"
	"slices"
	"strings"
	"testing"

	"gristmill/api"
	"gristmill/internal/memtest"
	"gristmill/vint"
)

// numbers are numbers in increasing order: the least, the greatest, those at whose sizes their bytes and their digits grow, and their neighbours.
func numbers() []int {
	ns := []int{math.MinInt, math.MinInt + 1, math.MaxInt - 1, math.MaxInt}
	for shift := range 62 {
		p := 1 << shift
		ns = append(ns, p-1, p, p+1, -p-1, -p, 1-p)
	}
	for p := 1; p <= math.MaxInt/10; p *= 10 {
		ns = append(ns, 10*p-1, 10*p, 1-10*p, -10*p)
	}
	slices.Sort(ns)
	return slices.Compact(ns)
}

// sized are strings at whose lengths the number before them grows, up to the limit.
func sized() []string {
	var ss []string
	for _, n := range []int{126, 127, 128, 1<<14 - 1, 1 << 14, api.MaxItem - 1, api.MaxItem} {
		ss = append(ss, string(memtest.Mixed(n)))
	}
	return ss
}

// rising are values, each greater than those before it.
func rising() []api.Val {
	var vs []api.Val
	for _, n := range numbers() {
		vs = append(vs, api.Val{Kind: api.Num, Int: n})
	}
	for _, s := range memtest.Rising() {
		vs = append(vs, api.Val{Kind: api.Str, Text: s})
	}
	return vs
}

// values are those in order and the long ones.
func values() []api.Val {
	vs := rising()
	for _, s := range sized() {
		vs = append(vs, api.Val{Kind: api.Str, Text: s})
	}
	return vs
}

// written is a value by the words of the chapter.
func written(v api.Val) []byte {
	if v.Kind == api.Num {
		return append([]byte{0}, vint.PutInt(nil, v.Int)...)
	}
	return append([]byte{1}, vint.PutText(nil, v.Text)...)
}

// told is a value as a failed test tells it.
func told(v api.Val) string {
	return fmt.Sprintf("{%d, %d, %.40q}", v.Kind, v.Int, v.Text)
}

// aheads are bytes that may be ahead of a value.
func aheads() [][]byte {
	return [][]byte{nil, {}, {0xff}, {0, 3}, {1, 1, 'z'}, memtest.Mixed(300)}
}

// tails are bytes that may follow a value: none, some that are a value, some that look like the beginning of one.
func tails() [][]byte {
	return [][]byte{nil, {0}, {1, 1, 'q'}, {0x80}, bytes.Repeat([]byte{0xff}, 12)}
}

func checkPut(t *testing.T, b []byte, v api.Val, want []byte) {
	t.Helper()
	if got := Put(b, v); !bytes.Equal(got, want) {
		t.Errorf("Put(%d bytes, %s) = %.80x, want %.80x", len(b), told(v), got, want)
	}
}

func checkGet(t *testing.T, b []byte, at int, want api.Val, next int, e api.Errno) {
	t.Helper()
	if got, gotNext, gotE := Get(b, at); got != want || gotNext != next || gotE != e {
		t.Errorf("Get(%d bytes: %.80x, %d) = %s, %d, %d; want %s, %d, %d", len(b), b, at, told(got), gotNext, gotE, told(want), next, e)
	}
}

// checkNone fails if a value is read at index at, or if another error or anything beside it is returned.
func checkNone(t *testing.T, b []byte, at int, e api.Errno) {
	t.Helper()
	checkGet(t, b, at, api.Val{}, 0, e)
}

// P8.1

func TestInt(t *testing.T) {
	for _, n := range numbers() {
		if v := Int(n); v.Kind != 0 || v.Int != n || v.Text != "" {
			t.Errorf("Int(%d) = %s", n, told(v))
		}
	}
}

func TestText(t *testing.T) {
	for _, s := range append(memtest.Rising(), sized()...) {
		if v := Text(s); v.Kind != 1 || v.Int != 0 || v.Text != s {
			t.Errorf("Text(%.40q) = %s", s, told(v))
		}
	}
	// Only what is read has a limit.
	long := strings.Repeat("a", api.MaxItem+1)
	if v := Text(long); v != (api.Val{Kind: api.Str, Text: long}) {
		t.Error("Text of a string longer than MaxItem")
	}
}

func TestOrderOfAllValues(t *testing.T) {
	vs := rising()
	for i, a := range vs {
		for j, b := range vs {
			if got := Order(a, b); got != cmp.Compare(i, j) {
				t.Errorf("Order(%s, %s) = %d, want %d", told(a), told(b), got, cmp.Compare(i, j))
			}
		}
	}
}

func TestOrderLooksAtMeaningfulFieldsAlone(t *testing.T) {
	vs := []api.Val{Int(math.MinInt), Int(-1), Int(0), Int(1), Int(math.MaxInt), Text(""), Text("-1"), Text("a"), Text("b")}
	for i, first := range vs {
		for j, second := range vs {
			for _, a := range memtest.Disguised(first) {
				for _, b := range memtest.Disguised(second) {
					if got := Order(a, b); got != cmp.Compare(i, j) {
						t.Errorf("Order(%s, %s) = %d, want %d", told(a), told(b), got, cmp.Compare(i, j))
					}
				}
			}
		}
	}
}

func TestOrderOfLongStrings(t *testing.T) {
	long := strings.Repeat("a", 2*api.MaxItem)
	for _, x := range []struct {
		a, b string
		want int
	}{
		{long, long, 0},
		{long, long + "a", -1},
		{long + "b", long + "aa", 1},
		{long + "\x7f", long + "\x80", -1},
		{"a", long, -1},
		{"b", long, 1},
	} {
		if got := Order(Text(x.a), Text(x.b)); got != x.want {
			t.Errorf("Order of strings of %d and %d bytes = %d, want %d", len(x.a), len(x.b), got, x.want)
		}
		if got := Order(Text(x.b), Text(x.a)); got != -x.want {
			t.Errorf("Order of strings of %d and %d bytes = %d, want %d", len(x.b), len(x.a), got, -x.want)
		}
	}
}

// P8.2

func TestPutKnown(t *testing.T) {
	checkPut(t, nil, Int(0), []byte{0, 0})
	checkPut(t, []byte{}, Int(-1), []byte{0, 1})
	checkPut(t, []byte{7, 8}, Int(150), []byte{7, 8, 0, 0x81, 0x2c})
	checkPut(t, nil, Int(math.MinInt), []byte{0, 255, 255, 255, 255, 255, 255, 255, 255, 255})
	checkPut(t, nil, Int(math.MaxInt), []byte{0, 255, 255, 255, 255, 255, 255, 255, 255, 254})
	checkPut(t, nil, Text(""), []byte{1, 0})
	checkPut(t, []byte{}, Text("ab"), []byte{1, 2, 'a', 'b'})
	checkPut(t, []byte{7, 8}, Text("\x00\xff"), []byte{7, 8, 1, 2, 0, 255})
}

func TestPutByDefinition(t *testing.T) {
	for _, v := range values() {
		for _, b := range aheads() {
			checkPut(t, b, v, append(bytes.Clone(b), written(v)...))
		}
	}
}

func TestPutWritesMeaningfulFieldsAlone(t *testing.T) {
	for _, v := range []api.Val{Int(math.MinInt), Int(-1), Int(0), Int(64), Text(""), Text("-1"), Text("a\xff")} {
		for _, same := range memtest.Disguised(v) {
			checkPut(t, nil, same, written(v))
			checkPut(t, []byte{1, 2}, same, append([]byte{1, 2}, written(v)...))
		}
	}
}

func TestPutHasNoLimit(t *testing.T) {
	for _, n := range []int{api.MaxItem + 1, 2 * api.MaxItem, api.MaxBytes + 1} {
		v := Text(string(memtest.Mixed(n)))
		checkPut(t, nil, v, written(v))
	}
	long := memtest.Mixed(2 * api.MaxBytes)
	checkPut(t, long, Int(5), append(bytes.Clone(long), 0, 10))
}

func TestPutMakesNewMemory(t *testing.T) {
	for _, was := range [][]byte{nil, {1}, memtest.Mixed(100)} {
		for _, v := range []api.Val{Int(0), Int(math.MinInt), Text(""), Text("abc"), {Kind: 9, Int: 9, Text: "x"}} {
			b := memtest.Roomy(was, 0xee)
			result := Put(b, v)
			memtest.Check(t, result, b, was, 0xee)
			if again := Put(b, v); memtest.Shared(result, again) {
				t.Error("two results of Put share memory")
			}
		}
	}
}

func TestGetKnown(t *testing.T) {
	checkGet(t, []byte{0, 0}, 0, Int(0), 2, api.OK)
	checkGet(t, []byte{9, 0, 3}, 1, Int(-2), 3, api.OK)
	checkGet(t, []byte{0, 255, 255, 255, 255, 255, 255, 255, 255, 255}, 0, Int(math.MinInt), 10, api.OK)
	checkGet(t, []byte{0, 255, 255, 255, 255, 255, 255, 255, 255, 254}, 0, Int(math.MaxInt), 10, api.OK)
	checkGet(t, []byte{1, 0}, 0, Text(""), 2, api.OK)
	checkGet(t, []byte{9, 9, 1, 2, 'a', 0xff, 9}, 2, Text("a\xff"), 6, api.OK)
	// What is a value depends on where it begins.
	b := []byte{1, 1, 1, 0}
	checkGet(t, b, 0, Text("\x01"), 3, api.OK)
	checkGet(t, b, 1, Text("\x00"), 4, api.OK)
	checkGet(t, b, 2, Text(""), 4, api.OK)
	checkNone(t, b, 3, api.ErrShort)
}

func TestGetByDefinition(t *testing.T) {
	for _, v := range values() {
		for _, ahead := range aheads() {
			for _, tail := range tails() {
				b := slices.Concat(ahead, written(v), tail)
				checkGet(t, b, len(ahead), v, len(b)-len(tail), api.OK)
			}
		}
	}
}

func TestGetIndexOutOfRange(t *testing.T) {
	for _, b := range [][]byte{nil, {}, {0}, {2}, {0, 0}, {1, 1, 'a'}, {1, 0x80, 0}} {
		for _, at := range []int{-1, -2, math.MinInt, len(b) + 1, len(b) + 2, math.MaxInt} {
			checkNone(t, b, at, api.ErrRange)
		}
		checkNone(t, b, len(b), api.ErrShort)
	}
	// The spare room of a slice holds no bytes of it.
	spare := []byte{0, 0, 0, 0}[:1]
	checkNone(t, spare, 0, api.ErrShort)
	checkNone(t, spare, 1, api.ErrShort)
	checkNone(t, spare, 2, api.ErrRange)
}

func TestGetUnknownKind(t *testing.T) {
	for c := 2; c < 256; c++ {
		checkNone(t, []byte{byte(c)}, 0, api.ErrForm)
		checkNone(t, []byte{0, byte(c)}, 1, api.ErrForm)
		for _, v := range []api.Val{Int(-2), Text("ab")} {
			// All that would follow the byte is there.
			checkNone(t, append([]byte{byte(c)}, written(v)[1:]...), 0, api.ErrForm)
			checkNone(t, append([]byte{9, byte(c)}, written(v)...), 1, api.ErrForm)
		}
	}
}

func TestGetPassesTheErrorsOfTheNumber(t *testing.T) {
	for _, kind := range []byte{0, 1} {
		for _, code := range [][]byte{{}, {0x80}, {0xc0, 1}, {0xff, 1, 2, 3, 4, 5, 6, 7}} {
			checkNone(t, append([]byte{kind}, code...), 0, api.ErrShort)
			checkNone(t, append([]byte{9, 9, kind}, code...), 2, api.ErrShort)
		}
		// Numbers that have a shorter encoding, with all that would follow them.
		for _, code := range [][]byte{{0x80, 0}, {0x80, 2}, {0x80, 127}, {0xc0, 0, 1}, {0xff, 0, 0, 0, 0, 0, 0, 0, 1}} {
			code = append(code, make([]byte, 300)...)
			checkNone(t, append([]byte{kind}, code...), 0, api.ErrForm)
			checkNone(t, append([]byte{9, 9, kind}, code...), 2, api.ErrForm)
		}
	}
}

func TestGetTooLong(t *testing.T) {
	for _, n := range []int{api.MaxItem + 1, api.MaxItem + 2, 2 * api.MaxItem, api.MaxBytes} {
		b := written(Text(string(memtest.Mixed(n))))
		checkNone(t, b, 0, api.ErrLong)
		checkNone(t, append([]byte{9, 9}, b...), 2, api.ErrLong)
		// The limit comes ahead of the missing bytes.
		checkNone(t, b[:10], 0, api.ErrLong)
	}
	for _, code := range [][]byte{
		{0xff, 0x7f, 0xff, 0xff, 0xff, 0xff, 0xff, 0xff, 0xff},
		{0xff, 0x80, 0, 0, 0, 0, 0, 0, 0},
		{0xff, 0xff, 0xff, 0xff, 0xff, 0xff, 0xff, 0xff, 0xff},
	} {
		checkNone(t, append([]byte{1}, code...), 0, api.ErrLong)
		checkNone(t, append(append([]byte{1}, code...), 'a', 'b'), 0, api.ErrLong)
	}
}

func TestGetOfEveryCut(t *testing.T) {
	for _, v := range append(rising(), Text(string(memtest.Mixed(130)))) {
		for cut, b := 0, written(v); cut < len(b); cut++ {
			checkNone(t, b[:cut], 0, api.ErrShort)
			checkNone(t, append(make([]byte, 20), b[:cut]...), 20, api.ErrShort)
		}
	}
	longest := written(Text(string(memtest.Mixed(api.MaxItem))))
	for _, cut := range []int{1, 3, 4, 5, 1000, len(longest) - 1} {
		checkNone(t, longest[:cut], 0, api.ErrShort)
	}
}

func TestGetMakesNewMemory(t *testing.T) {
	for _, was := range [][]byte{nil, {0}, {2, 0}, {0, 0x80, 0}, {0, 3}, {1, 3, 'a', 'b'}, {1, 3, 'a', 'b', 'c'}} {
		b := memtest.Roomy(was, 0xee)
		Get(b, 0)
		memtest.Check(t, nil, b, was, 0xee)
	}
	b := []byte{1, 3, 'a', 'b', 'c'}
	v, _, _ := Get(b, 0)
	clear(b)
	if v != Text("abc") {
		t.Errorf("the string changed with the bytes: %s", told(v))
	}
}

// P8.3

func TestShow(t *testing.T) {
	for _, n := range numbers() {
		for _, v := range memtest.Disguised(Int(n)) {
			if s := Show(v); s != fmt.Sprintf("%d", n) {
				t.Errorf("Show(%s) = %q", told(v), s)
			}
		}
	}
	for _, want := range append(memtest.Rising(), append(sized(), "-007", "+5", " 1", strings.Repeat("9", 2*api.MaxItem))...) {
		for _, v := range memtest.Disguised(Text(want)) {
			if s := Show(v); s != want {
				t.Errorf("Show(%s) = %.40q", told(v), s)
			}
		}
	}
}

func TestShowKnown(t *testing.T) {
	for n, want := range map[int]string{
		0: "0", 7: "7", -7: "-7", 1000000: "1000000", -10: "-10",
		math.MaxInt: "9223372036854775807", math.MinInt: "-9223372036854775808",
	} {
		if s := Show(Int(n)); s != want {
			t.Errorf("Show of %d = %q, want %q", n, s, want)
		}
	}
}

func checkNumber(t *testing.T, s string, want int, e api.Errno) {
	t.Helper()
	if n, gotE := Number(s); n != want || gotE != e {
		t.Errorf("Number(%d bytes: %.80q) = %d, %d; want %d, %d", len(s), s, n, gotE, want, e)
	}
}

// inForm is what the chapter asks of the string of a number.
var inForm = regexp.MustCompile(`\A-?[0-9]+\z`)

// checkNumberByDefinition takes the words of the chapter and numbers of any size: it shares nothing with Number.
func checkNumberByDefinition(t *testing.T, s string) {
	t.Helper()
	if !inForm.MatchString(s) {
		checkNumber(t, s, 0, api.ErrForm)
		return
	}
	n, ok := new(big.Int).SetString(s, 10)
	if !ok {
		t.Fatalf("%q has no number", s)
	}
	if !n.IsInt64() {
		checkNumber(t, s, 0, api.ErrRange)
		return
	}
	checkNumber(t, s, int(n.Int64()), api.OK)
}

func TestNumberKnown(t *testing.T) {
	for s, want := range map[string]int{
		"0": 0, "-0": 0, "000": 0, "-000": 0, "1": 1, "-1": -1, "-007": -7, "0005": 5, "08": 8, "010": 10, "1234567890": 1234567890,
		"9223372036854775807": math.MaxInt, "-9223372036854775807": math.MinInt + 1, "-9223372036854775808": math.MinInt,
		"00009223372036854775807": math.MaxInt, "-00009223372036854775808": math.MinInt,
	} {
		checkNumber(t, s, want, api.OK)
	}
}

func TestNumberOutOfRange(t *testing.T) {
	for _, s := range []string{
		"9223372036854775808", "-9223372036854775809", "9223372036854775810", "9300000000000000000", "-9999999999999999999",
		"18446744073709551615", "18446744073709551616", "18446744073709551617", "-18446744073709551616", "-18446744073709551615",
		"0009223372036854775808", "-0009223372036854775809", "100000000000000000000000000000000000005",
		strings.Repeat("9", 1000), "-" + strings.Repeat("1", api.MaxItem), "1" + strings.Repeat("0", 2*api.MaxItem),
	} {
		checkNumber(t, s, 0, api.ErrRange)
	}
}

func TestNumberNotInForm(t *testing.T) {
	for _, s := range []string{
		"", "-", "--", "--1", "-+1", "+", "+1", "+-1", "1-", "1-2", "- 1", " 1", "1 ", "1 2", "\t1", "1\n", "\n1", "-1\n", "1\r", "1\x00", "\x001",
		"1_000", "_1", "1_", "1,000", "1.0", ".", "1.", "1e3", "0x10", "0X1f", "0b1", "0o7", "a", "ff", "1a", "a1", "nan", "inf", "-inf",
		"/", ":", "1/", "1:", "-/", "٣", "-٣", "１", "1²", "−5", "–5", "\xff", "1\xff", "\xb1", "\"1\"",
	} {
		checkNumber(t, s, 0, api.ErrForm)
	}
	// Digits that would be out of range do not hide a wrong byte, wherever it is.
	for _, many := range []string{strings.Repeat("9", 30), strings.Repeat("0", 30), strings.Repeat("7", api.MaxItem)} {
		for _, wrong := range []string{"x", " ", "-", "+", "_", "\x00", "\xff"} {
			checkNumber(t, many+wrong, 0, api.ErrForm)
			checkNumber(t, many+wrong+"1", 0, api.ErrForm)
			checkNumber(t, "-"+many+wrong+many, 0, api.ErrForm)
			checkNumber(t, "-"+wrong+many, 0, api.ErrForm)
		}
		checkNumber(t, "+"+many, 0, api.ErrForm)
	}
}

func TestNumberOfEachByte(t *testing.T) {
	for c := range 256 {
		for _, s := range []string{string([]byte{byte(c)}), string([]byte{byte(c), '1'}), string([]byte{'1', byte(c)}), string([]byte{'-', byte(c)}), string([]byte{'1', byte(c), '1'})} {
			checkNumberByDefinition(t, s)
		}
	}
}

func TestNumberOfAllShortStrings(t *testing.T) {
	for _, b := range memtest.Short([]byte("-0179+ _x"), 5) {
		checkNumberByDefinition(t, string(b))
	}
}

func TestNumberAroundTheLimits(t *testing.T) {
	for _, limit := range []string{"9223372036854775807", "-9223372036854775808", "18446744073709551616", "-18446744073709551616", "92233720368547758070", "1000000000000000000", "-10000000000000000000"} {
		middle, _ := new(big.Int).SetString(limit, 10)
		for d := int64(-300); d <= 300; d++ {
			digits := new(big.Int).Add(middle, big.NewInt(d)).String()
			checkNumberByDefinition(t, digits)
			minus := strings.Repeat("-", strings.Count(digits, "-"))
			checkNumberByDefinition(t, minus+"00"+strings.TrimPrefix(digits, "-"))
		}
	}
}

// P8.4

func TestNumberOfShow(t *testing.T) {
	for _, n := range numbers() {
		checkNumber(t, Show(Int(n)), n, api.OK)
	}
	for n := -100000; n <= 100000; n++ {
		checkNumber(t, Show(Int(n)), n, api.OK)
	}
}

func TestValuesAreReadBack(t *testing.T) {
	for _, v := range values() {
		for _, tail := range tails() {
			for _, same := range memtest.Disguised(v)[:2] {
				b := Put([]byte{200}, same)
				checkGet(t, append(b, tail...), 1, v, len(b), api.OK)
			}
		}
	}
}

func TestOneBehindTheOther(t *testing.T) {
	var b []byte
	for _, v := range values() {
		b = Put(b, v)
	}
	at := 0
	for _, want := range values() {
		v, next, e := Get(b, at)
		if v != want || e != api.OK {
			t.Fatalf("%s was read as %s with %d", told(want), told(v), e)
		}
		at = next
	}
	if at != len(b) {
		t.Errorf("the last value ends at %d of %d", at, len(b))
	}
}

// checkWrittenAgain fails if the value that is read at index at is not written as the same bytes, or if an error comes with more.
func checkWrittenAgain(t *testing.T, b []byte, at int) {
	t.Helper()
	v, next, e := Get(b, at)
	if e != api.OK {
		checkNone(t, b, at, e)
		return
	}
	if again := Put(nil, v); !bytes.Equal(again, b[at:next]) {
		t.Errorf("Get(%.80x, %d) = %s, which Put writes as %.80x", b, at, told(v), again)
	}
}

func TestShortBytesAreWrittenAgain(t *testing.T) {
	for _, b := range memtest.Short([]byte{0, 1, 2, 3, 0x80, 0xc1, 0xff}, 5) {
		checkWrittenAgain(t, b, 0)
	}
}

func FuzzWrittenAgain(f *testing.F) {
	f.Add([]byte{0, 3}, 0)
	f.Add([]byte{9, 1, 2, 'a', 'b'}, 1)
	f.Add([]byte{1, 0x80, 0}, 0)
	f.Add([]byte{2}, 0)
	f.Fuzz(checkWrittenAgain)
}

func FuzzNumber(f *testing.F) {
	for _, s := range []string{"", "-007", "+1", "9223372036854775807", "-9223372036854775808", "9223372036854775808", "99999999999999999999x"} {
		f.Add(s)
	}
	f.Fuzz(checkNumberByDefinition)
}
