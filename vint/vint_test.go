package vint

import (
	"bytes"
	"fmt"
	"math"
	"strconv"
	"strings"
	"testing"

	"gristmill/api"
	"gristmill/internal/memtest"
)

// edges are the least and the greatest number of each length, with their encodings as the chapter gives them.
var edges = []struct {
	n    uint64
	code string
}{
	{0, "00"},
	{1<<7 - 1, "7f"},
	{1 << 7, "8080"},
	{1<<14 - 1, "bfff"},
	{1 << 14, "c04000"},
	{1<<21 - 1, "dfffff"},
	{1 << 21, "e0200000"},
	{1<<28 - 1, "efffffff"},
	{1 << 28, "f010000000"},
	{1<<35 - 1, "f7ffffffff"},
	{1 << 35, "f80800000000"},
	{1<<42 - 1, "fbffffffffff"},
	{1 << 42, "fc040000000000"},
	{1<<49 - 1, "fdffffffffffff"},
	{1 << 49, "fe02000000000000"},
	{1<<56 - 1, "feffffffffffffff"},
	{1 << 56, "ff0100000000000000"},
	{math.MaxUint64, "ffffffffffffffffff"},
}

// samples are the edges, their neighbours, each power of two with its neighbours, and numbers of mixed bits.
func samples() []uint64 {
	var ns []uint64
	for _, x := range edges {
		ns = append(ns, x.n-1, x.n, x.n+1)
	}
	mixed := uint64(0x9e3779b97f4a7c15)
	for shift := range 64 {
		p := uint64(1) << shift
		ns = append(ns, p-1, p, p+1, mixed>>shift, 0x0123456789abcdef>>shift)
	}
	return ns
}

// tails are bytes that may follow an encoding: none, some that look like one, some that look like the beginning of one.
func tails() [][]byte {
	return [][]byte{nil, {0}, {7, 7}, {0x80}, {255}, bytes.Repeat([]byte{255}, 12)}
}

// encoded writes the bits of the chapter's words as text and packs them: it shares nothing with Put.
func encoded(n uint64) []byte {
	k := 9
	for i := 8; i >= 1; i-- {
		if len(strconv.FormatUint(n, 2)) <= 7*i {
			k = i
		}
	}
	text := strings.Repeat("1", 8) + fmt.Sprintf("%064b", n)
	if k < 9 {
		text = strings.Repeat("1", k-1) + "0" + fmt.Sprintf("%0*b", 7*k, n)
	}
	var b []byte
	for i := 0; i < len(text); i += 8 {
		c, err := strconv.ParseUint(text[i:i+8], 2, 8)
		if err != nil {
			panic(err)
		}
		b = append(b, byte(c))
	}
	return b
}

// hexed turns hexadecimal digits into bytes.
func hexed(t *testing.T, digits string) []byte {
	t.Helper()
	var b []byte
	if _, err := fmt.Sscanf(digits, "%x", &b); err != nil {
		t.Fatal(digits, err)
	}
	return b
}

// P1.1

func TestLenOfEdges(t *testing.T) {
	for i, x := range edges {
		if k := Len(x.n); k != i/2+1 {
			t.Errorf("Len(%d) = %d, want %d", x.n, k, i/2+1)
		}
	}
}

func TestPutOfEdges(t *testing.T) {
	for _, x := range edges {
		if b := Put(nil, x.n); !bytes.Equal(b, hexed(t, x.code)) {
			t.Errorf("Put(%d) = %x, want %s", x.n, b, x.code)
		}
	}
}

func TestPutExamples(t *testing.T) {
	if b := Put([]byte{}, 5); !bytes.Equal(b, []byte{5}) {
		t.Errorf("Put(5) = %x", b)
	}
	if b := Put([]byte{}, 300); !bytes.Equal(b, []byte{0x81, 0x2c}) {
		t.Errorf("Put(300) = %x", b)
	}
	if b := Put(nil, 0x1122334455667788); !bytes.Equal(b, hexed(t, "ff1122334455667788")) {
		t.Errorf("the order of nine bytes: %x", b)
	}
	if b := Put(nil, 0x11223344556677); !bytes.Equal(b, hexed(t, "fe11223344556677")) {
		t.Errorf("the order of eight bytes: %x", b)
	}
}

func TestPutAndLenByDefinition(t *testing.T) {
	for _, n := range samples() {
		want := encoded(n)
		if b := Put(nil, n); !bytes.Equal(b, want) || Len(n) != len(want) {
			t.Errorf("%d: %x and length %d, want %x", n, b, Len(n), want)
		}
	}
}

func TestPutAppends(t *testing.T) {
	for _, before := range [][]byte{nil, {}, {1}, {255, 0, 128}, bytes.Repeat([]byte{3}, 1000)} {
		for _, x := range edges {
			want := append(bytes.Clone(before), encoded(x.n)...)
			if b := Put(before, x.n); !bytes.Equal(b, want) {
				t.Errorf("Put(%x, %d) = %x", before, x.n, b)
			}
		}
	}
}

func TestPutMakesNewMemory(t *testing.T) {
	was := []byte{1, 2, 3}
	for _, x := range edges {
		b := memtest.Roomy(was, 0xee)
		result := Put(b, x.n)
		memtest.Check(t, result, b, was, 0xee)
	}
	b := memtest.Roomy(was, 0xee)
	if first, second := Put(b, 1), Put(b, 2); memtest.Shared(first, second) {
		t.Errorf("two results share memory: %x, %x", first, second)
	}
}

// P1.2

func checkGet(t *testing.T, b []byte, at int, n uint64, next int, e api.Errno) {
	t.Helper()
	if gotN, gotNext, gotE := Get(b, at); gotN != n || gotNext != next || gotE != e {
		t.Errorf("Get(%x, %d) = %d, %d, %d; want %d, %d, %d", b, at, gotN, gotNext, gotE, n, next, e)
	}
}

func TestGetOfEdges(t *testing.T) {
	for _, x := range edges {
		code := hexed(t, x.code)
		checkGet(t, code, 0, x.n, len(code), api.OK)
		checkGet(t, append([]byte{255, 255}, code...), 2, x.n, len(code)+2, api.OK)
	}
}

func TestGetIndexOutOfRange(t *testing.T) {
	for _, b := range [][]byte{nil, {}, {5}, {0x80, 0x80}, {255}} {
		checkGet(t, b, -1, 0, 0, api.ErrRange)
		checkGet(t, b, len(b)+1, 0, 0, api.ErrRange)
		checkGet(t, b, math.MinInt, 0, 0, api.ErrRange)
		checkGet(t, b, math.MaxInt, 0, 0, api.ErrRange)
		checkGet(t, b, len(b), 0, 0, api.ErrShort)
	}
	// The spare room of a slice holds no bytes of it.
	spare := []byte{5, 6, 7}[:1]
	checkGet(t, spare, 1, 0, 0, api.ErrShort)
	checkGet(t, spare, 2, 0, 0, api.ErrRange)
}

func TestGetTooFewBytes(t *testing.T) {
	for _, x := range edges {
		code := hexed(t, x.code)
		for cut := range len(code) {
			checkGet(t, code[:cut], 0, 0, 0, api.ErrShort)
			checkGet(t, append([]byte{9}, code[:cut]...), 1, 0, 0, api.ErrShort)
		}
	}
	// Too few bytes come ahead of too many for the number.
	checkGet(t, []byte{0xc0, 0}, 0, 0, 0, api.ErrShort)
}

// stretched returns n in k bytes, whether or not fewer would do.
func stretched(n uint64, k int) []byte {
	b := make([]byte, k)
	for i := k - 1; i >= 0; i-- {
		b[i] = byte(n)
		n >>= 8
	}
	b[0] |= []byte{0, 0x80, 0xc0, 0xe0, 0xf0, 0xf8, 0xfc, 0xfe, 0xff}[k-1]
	return b
}

func TestGetTooManyBytes(t *testing.T) {
	for _, x := range edges {
		least := len(x.code) / 2
		checkGet(t, stretched(x.n, least), 0, x.n, least, api.OK)
		for k := least + 1; k <= 9; k++ {
			checkGet(t, stretched(x.n, k), 0, 0, 0, api.ErrForm)
			checkGet(t, append([]byte{1, 2}, stretched(x.n, k)...), 2, 0, 0, api.ErrForm)
		}
	}
}

// P1.3

// signed are numbers with a sign and the numbers that stand for them.
var signed = []struct {
	n int
	m uint64
}{
	{0, 0}, {-1, 1}, {1, 2}, {-2, 3}, {2, 4},
	{63, 126}, {-64, 127}, {64, 128}, {-65, 129},
	{8191, 1<<14 - 2}, {-8192, 1<<14 - 1}, {8192, 1 << 14}, {-8193, 1<<14 + 1},
	{1<<55 - 1, 1<<56 - 2}, {-1 << 55, 1<<56 - 1}, {1 << 55, 1 << 56}, {-1<<55 - 1, 1<<56 + 1},
	{math.MaxInt - 1, math.MaxUint64 - 3}, {math.MinInt + 1, math.MaxUint64 - 2},
	{math.MaxInt, math.MaxUint64 - 1}, {math.MinInt, math.MaxUint64},
}

func checkGetInt(t *testing.T, b []byte, at, n, next int, e api.Errno) {
	t.Helper()
	if gotN, gotNext, gotE := GetInt(b, at); gotN != n || gotNext != next || gotE != e {
		t.Errorf("GetInt(%x, %d) = %d, %d, %d; want %d, %d, %d", b, at, gotN, gotNext, gotE, n, next, e)
	}
}

func TestPutInt(t *testing.T) {
	for _, x := range signed {
		want := append([]byte{8, 9}, encoded(x.m)...)
		if b := PutInt([]byte{8, 9}, x.n); !bytes.Equal(b, want) {
			t.Errorf("PutInt(%d) = %x, want %x", x.n, b, want)
		}
	}
	if b := PutInt([]byte{}, -1); !bytes.Equal(b, []byte{1}) {
		t.Errorf("PutInt(-1) = %x", b)
	}
}

func TestPutIntMakesNewMemory(t *testing.T) {
	was := []byte{1, 2}
	for _, x := range signed {
		b := memtest.Roomy(was, 0xee)
		result := PutInt(b, x.n)
		memtest.Check(t, result, b, was, 0xee)
	}
}

func TestGetInt(t *testing.T) {
	for _, x := range signed {
		code := encoded(x.m)
		checkGetInt(t, code, 0, x.n, len(code), api.OK)
		checkGetInt(t, append([]byte{255}, code...), 1, x.n, len(code)+1, api.OK)
	}
}

func TestGetIntErrors(t *testing.T) {
	checkGetInt(t, nil, 0, 0, 0, api.ErrShort)
	checkGetInt(t, nil, -1, 0, 0, api.ErrRange)
	checkGetInt(t, []byte{1, 1}, 3, 0, 0, api.ErrRange)
	checkGetInt(t, []byte{1, 1}, 2, 0, 0, api.ErrShort)
	checkGetInt(t, []byte{1, 0xc0, 1}, 1, 0, 0, api.ErrShort)
	checkGetInt(t, []byte{1, 0x80, 0x7f}, 1, 0, 0, api.ErrForm)
}

// texts are strings around the lengths at which the number before them grows, and of any bytes.
func texts() []string {
	ss := []string{"", "a", "abc", "\x00", "\xff\xfe\x80", "tab\tline\n", "é€😀"}
	for _, n := range []int{127, 128, 1<<14 - 1, 1 << 14, api.MaxItem, 1 << 21} {
		ss = append(ss, strings.Repeat("0123456\xff", n/8+1)[:n])
	}
	return ss
}

func checkGetText(t *testing.T, b []byte, at, most int, s string, next int, e api.Errno) {
	t.Helper()
	if gotS, gotNext, gotE := GetText(b, at, most); gotS != s || gotNext != next || gotE != e {
		t.Errorf("GetText(%d bytes, %d, %d) = %d bytes, %d, %d; want %d bytes, %d, %d", len(b), at, most, len(gotS), gotNext, gotE, len(s), next, e)
	}
}

func TestPutText(t *testing.T) {
	for _, s := range texts() {
		want := append(append([]byte{4, 255}, encoded(uint64(len(s)))...), s...)
		if b := PutText([]byte{4, 255}, s); !bytes.Equal(b, want) {
			t.Errorf("PutText of %d bytes begins with %x", len(s), b[:min(len(b), 20)])
		}
	}
	if b := PutText(nil, ""); !bytes.Equal(b, []byte{0}) {
		t.Errorf("PutText of nothing = %x", b)
	}
}

func TestPutTextMakesNewMemory(t *testing.T) {
	was := []byte{1, 2}
	for _, s := range []string{"", "a", "abcdefgh"} {
		b := memtest.Roomy(was, 0xee)
		result := PutText(b, s)
		memtest.Check(t, result, b, was, 0xee)
	}
}

func TestGetTextLimit(t *testing.T) {
	for _, s := range texts() {
		b := append(append([]byte{0}, encoded(uint64(len(s)))...), s...)
		checkGetText(t, b, 1, len(s), s, len(b), api.OK)
		checkGetText(t, b, 1, len(s)+1, s, len(b), api.OK)
		checkGetText(t, b, 1, math.MaxInt, s, len(b), api.OK)
		checkGetText(t, b, 1, len(s)-1, "", 0, api.ErrLong)
		checkGetText(t, b, 1, -1, "", 0, api.ErrLong)
		checkGetText(t, b, 1, math.MinInt, "", 0, api.ErrLong)
	}
}

func TestGetTextErrors(t *testing.T) {
	checkGetText(t, nil, 0, 9, "", 0, api.ErrShort)
	checkGetText(t, nil, 1, 9, "", 0, api.ErrRange)
	checkGetText(t, []byte{1, 'a'}, -1, 9, "", 0, api.ErrRange)
	checkGetText(t, []byte{1, 'a'}, 2, 9, "", 0, api.ErrShort)
	checkGetText(t, []byte{0x80}, 0, 9, "", 0, api.ErrShort)
	checkGetText(t, []byte{0x80, 1, 'a'}, 0, 9, "", 0, api.ErrForm)
	// The error of the number comes ahead of the limit.
	checkGetText(t, []byte{0xc0, 0}, 0, -1, "", 0, api.ErrShort)
	checkGetText(t, []byte{0x80, 3}, 0, -1, "", 0, api.ErrForm)
	checkGetText(t, []byte{3}, 2, -1, "", 0, api.ErrRange)
}

func TestGetTextTooFewBytes(t *testing.T) {
	b := []byte{9, 3, 'a', 'b', 'c'}
	for cut := 2; cut < len(b); cut++ {
		checkGetText(t, b[:cut], 1, 3, "", 0, api.ErrShort)
		// The limit comes ahead of the missing bytes.
		checkGetText(t, b[:cut], 1, 2, "", 0, api.ErrLong)
	}
	for _, n := range []uint64{5, math.MaxInt - 1, math.MaxInt} {
		checkGetText(t, append(encoded(n), 'a'), 0, math.MaxInt, "", 0, api.ErrShort)
	}
	for _, n := range []uint64{math.MaxInt + 1, math.MaxUint64} {
		checkGetText(t, append(encoded(n), 'a'), 0, math.MaxInt, "", 0, api.ErrLong)
		checkGetText(t, append(encoded(n), 'a'), 0, -1, "", 0, api.ErrLong)
	}
}

func TestGetTextMakesNewMemory(t *testing.T) {
	b := []byte{3, 'a', 'b', 'c'}
	s, _, _ := GetText(b, 0, 3)
	clear(b)
	if s != "abc" {
		t.Errorf("the string changed with the bytes: %q", s)
	}
}

// P1.4

func TestNumbersAreReadBack(t *testing.T) {
	for _, n := range samples() {
		for _, tail := range tails() {
			whole := append(Put([]byte{200}, n), tail...)
			checkGet(t, whole, 1, n, 1+Len(n), api.OK)
			whole = append(PutInt([]byte{200}, int(n)), tail...)
			checkGetInt(t, whole, 1, int(n), len(whole)-len(tail), api.OK)
		}
	}
}

func TestTextsAreReadBack(t *testing.T) {
	for _, s := range texts() {
		for _, tail := range tails() {
			whole := append(PutText([]byte{200}, s), tail...)
			checkGetText(t, whole, 1, len(s), s, len(whole)-len(tail), api.OK)
		}
	}
}

func TestOneBehindTheOther(t *testing.T) {
	var b []byte
	for _, n := range samples() {
		b = PutText(PutInt(Put(b, n), -int(n)), strconv.FormatUint(n, 10))
	}
	at := 0
	for _, want := range samples() {
		n, next, e1 := Get(b, at)
		i, next, e2 := GetInt(b, next)
		s, next, e3 := GetText(b, next, 20)
		if n != want || i != -int(want) || s != strconv.FormatUint(want, 10) || e1 != api.OK || e2 != api.OK || e3 != api.OK {
			t.Fatalf("%d was read as %d, %d, %q with %d, %d, %d", want, n, i, s, e1, e2, e3)
		}
		at = next
	}
	if at != len(b) {
		t.Errorf("the last ends at %d of %d", at, len(b))
	}
}

// checkWrittenAgain fails if what is read at the beginning of b is not what Put writes, or if an error comes with more.
func checkWrittenAgain(t *testing.T, b []byte) {
	t.Helper()
	n, next, e := Get(b, 0)
	if e != api.OK {
		if n != 0 || next != 0 || e != api.ErrShort && e != api.ErrForm {
			t.Errorf("Get(%x) = %d, %d, %d", b, n, next, e)
		}
		return
	}
	if !bytes.Equal(Put(nil, n), b[:next]) {
		t.Errorf("Get(%x) = %d, which is written as %x", b, n, Put(nil, n))
	}
}

func TestReadNumbersAreWrittenAgain(t *testing.T) {
	for x := range 1 << 16 {
		checkWrittenAgain(t, []byte{byte(x >> 8), byte(x)})
	}
	for first := range 256 {
		for _, n := range samples() {
			b := append([]byte{byte(first)}, stretched(n, 9)[1:]...)
			checkWrittenAgain(t, b)
			checkWrittenAgain(t, b[:1+int(n%9)])
		}
	}
}

func FuzzGet(f *testing.F) {
	for _, x := range edges {
		f.Add(encoded(x.n), 0, 9)
	}
	f.Add([]byte{3, 'a', 'b', 'c'}, 0, 3)
	f.Add([]byte{0x80, 0x7f}, 0, 3)
	f.Fuzz(func(t *testing.T, b []byte, at, most int) {
		n, next, e := Get(b, at)
		if e == api.OK && !bytes.Equal(Put(nil, n), b[at:next]) || e != api.OK && (n != 0 || next != 0) {
			t.Errorf("Get(%x, %d) = %d, %d, %d", b, at, n, next, e)
		}
		i, nextI, eI := GetInt(b, at)
		if eI != e || nextI != next || e == api.OK && !bytes.Equal(PutInt(nil, i), b[at:next]) {
			t.Errorf("GetInt(%x, %d) = %d, %d, %d", b, at, i, nextI, eI)
		}
		s, nextS, eS := GetText(b, at, most)
		if eS == api.OK && (len(s) > most || !bytes.Equal(PutText(nil, s), b[at:nextS])) || eS != api.OK && (s != "" || nextS != 0) {
			t.Errorf("GetText(%x, %d, %d) = %q, %d, %d", b, at, most, s, nextS, eS)
		}
	})
}
