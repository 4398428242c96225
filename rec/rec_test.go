package rec

import (
	"bytes"
	"math"
	"slices"
	"strconv"
	"strings"
	"testing"

	"gristmill/api"
	"gristmill/internal/memtest"
)

// text returns a string as the chapters write it.
func text(s string) []byte {
	return append(memtest.Number(len(s)), s...)
}

// listed is a list of strings by the words of the chapter.
func listed(l []string) []byte {
	b := memtest.Number(len(l))
	for _, s := range l {
		b = append(b, text(s)...)
	}
	return b
}

// paired is a list of pairs by the words of the chapter.
func paired(l []api.Pair) []byte {
	b := memtest.Number(len(l))
	for _, p := range l {
		b = append(append(b, text(p.Key)...), text(p.Val)...)
	}
	return b
}

// sized returns a string of so many bytes, of any kind.
func sized(n int) string { return string(memtest.Mixed(n)) }

// counted returns so many strings, all of them unlike.
func counted(n int) []string {
	l := make([]string, n)
	for i := range l {
		l[i] = "item " + strconv.Itoa(i)
	}
	return l
}

// couples returns pairs of the strings, each as a Key, with the strings in reverse order as Vals.
func couples(l []string) []api.Pair {
	pairs := make([]api.Pair, len(l))
	for i := range l {
		pairs[i] = api.Pair{Key: l[i], Val: l[len(l)-1-i]}
	}
	return pairs
}

// lists are lists at whose lengths, and with strings at whose lengths, the numbers before them grow, up to the limits.
func lists() [][]string {
	ls := [][]string{nil, {}, {""}, {"a"}, {"a", ""}, {"", "a"}, {"", ""}, {"b", "a", "b"}, {"\x00", "\xff\x80", "é€😀", "a\nb"}}
	for _, n := range []int{126, 127, 128, 1<<14 - 1, 1 << 14, api.MaxItem - 1, api.MaxItem} {
		ls = append(ls, []string{sized(n)}, []string{"", sized(n), "x", sized(n)})
	}
	for _, n := range []int{127, 128, 1<<14 - 1, 1 << 14, api.MaxList - 1, api.MaxList} {
		ls = append(ls, counted(n), make([]string, n))
	}
	return ls
}

// aheads are bytes that may be ahead of a list.
func aheads() [][]byte {
	return [][]byte{nil, {}, {0xff}, {2, 1, 'z', 0}, memtest.Mixed(300)}
}

// tails are bytes that may follow a list: none, some that look like a list, some that look like the beginning of one.
func tails() [][]byte {
	return [][]byte{nil, {0}, {1, 1, 'q'}, {0x80}, bytes.Repeat([]byte{0xff}, 12)}
}

func checkPutList(t *testing.T, b []byte, l []string, want []byte, e api.Errno) {
	t.Helper()
	if got, gotE := PutList(b, l); !bytes.Equal(got, want) || gotE != e {
		t.Errorf("PutList(%d bytes, %d strings) = %d bytes, %d; want %d bytes, %d", len(b), len(l), len(got), gotE, len(want), e)
	}
}

func checkPutPairs(t *testing.T, b []byte, l []api.Pair, want []byte, e api.Errno) {
	t.Helper()
	if got, gotE := PutPairs(b, l); !bytes.Equal(got, want) || gotE != e {
		t.Errorf("PutPairs(%d bytes, %d pairs) = %d bytes, %d; want %d bytes, %d", len(b), len(l), len(got), gotE, len(want), e)
	}
}

func checkGetList(t *testing.T, b []byte, at int, want []string, next int, e api.Errno) {
	t.Helper()
	if got, gotNext, gotE := GetList(b, at); !slices.Equal(got, want) || gotNext != next || gotE != e {
		t.Errorf("GetList(%d bytes: %x.., %d) = %d strings, %d, %d; want %d strings, %d, %d", len(b), b[:min(len(b), 12)], at, len(got), gotNext, gotE, len(want), next, e)
	}
}

func checkGetPairs(t *testing.T, b []byte, at int, want []api.Pair, next int, e api.Errno) {
	t.Helper()
	if got, gotNext, gotE := GetPairs(b, at); !slices.Equal(got, want) || gotNext != next || gotE != e {
		t.Errorf("GetPairs(%d bytes: %x.., %d) = %d pairs, %d, %d; want %d pairs, %d, %d", len(b), b[:min(len(b), 12)], at, len(got), gotNext, gotE, len(want), next, e)
	}
}

// checkNoList fails if either kind of list is read at index at, or if another error or anything beside it is returned.
func checkNoList(t *testing.T, b []byte, at int, e api.Errno) {
	t.Helper()
	checkGetList(t, b, at, nil, 0, e)
	checkGetPairs(t, b, at, nil, 0, e)
}

// P4.1

func TestPutListKnown(t *testing.T) {
	checkPutList(t, []byte{}, []string{"a", ""}, []byte{2, 1, 0x61, 0}, api.OK)
	checkPutList(t, nil, nil, []byte{0}, api.OK)
	checkPutList(t, []byte{}, []string{}, []byte{0}, api.OK)
	checkPutList(t, []byte{7, 8}, nil, []byte{7, 8, 0}, api.OK)
	checkPutList(t, []byte{7}, []string{"", "bc", "a"}, []byte{7, 3, 0, 2, 'b', 'c', 1, 'a'}, api.OK)
}

func TestPutListByDefinition(t *testing.T) {
	for _, l := range lists() {
		for _, b := range aheads() {
			checkPutList(t, b, l, append(bytes.Clone(b), listed(l)...), api.OK)
		}
	}
}

func TestPutListTooMany(t *testing.T) {
	for _, n := range []int{api.MaxList + 1, api.MaxList + 2, 2 * api.MaxList} {
		checkPutList(t, nil, make([]string, n), nil, api.ErrMany)
		checkPutList(t, []byte{1, 2}, counted(n), nil, api.ErrMany)
	}
	// Too many are named ahead of too long, wherever the long one is.
	for _, at := range []int{0, api.MaxList - 1, api.MaxList} {
		l := make([]string, api.MaxList+1)
		l[at] = sized(api.MaxItem + 1)
		checkPutList(t, nil, l, nil, api.ErrMany)
	}
}

func TestPutListTooLong(t *testing.T) {
	for _, n := range []int{api.MaxItem + 1, api.MaxItem + 2, 2 * api.MaxItem, 1 << 21} {
		for _, at := range []int{0, 1, 4} {
			l := []string{"a", "", sized(api.MaxItem), "b", "c"}
			l[at] = sized(n)
			checkPutList(t, nil, l, nil, api.ErrLong)
			checkPutList(t, []byte{1, 2}, l, nil, api.ErrLong)
		}
		checkPutList(t, nil, []string{sized(n)}, nil, api.ErrLong)
	}
	l := counted(api.MaxList)
	l[api.MaxList-1] = sized(api.MaxItem + 1)
	checkPutList(t, nil, l, nil, api.ErrLong)
}

func TestPutLimitsNoWhole(t *testing.T) {
	// Only the items and their number have a limit, not that to which they are put, nor what they are together.
	ahead := memtest.Mixed(2 * api.MaxBytes)
	l := slices.Repeat([]string{sized(api.MaxItem)}, 40)
	checkPutList(t, ahead, l, append(bytes.Clone(ahead), listed(l)...), api.OK)
	pairs := couples(l)
	checkPutPairs(t, ahead, pairs, append(bytes.Clone(ahead), paired(pairs)...), api.OK)
	checkGetList(t, listed(l), 0, l, len(listed(l)), api.OK)
	checkGetPairs(t, paired(pairs), 0, pairs, len(paired(pairs)), api.OK)
}

func TestPutListMakesNewMemory(t *testing.T) {
	for _, was := range [][]byte{nil, {1}, memtest.Mixed(100)} {
		for _, wasList := range [][]string{nil, {""}, {"a"}, {"abc", "", "defg"}, {sized(api.MaxItem + 1)}} {
			b, l := memtest.Roomy(was, 0xee), memtest.Roomy(wasList, "mark")
			result, _ := PutList(b, l)
			memtest.Check(t, result, b, was, 0xee)
			memtest.Check(t, nil, l, wasList, "mark")
			if again, _ := PutList(b, l); memtest.Shared(result, again) {
				t.Error("two results of PutList share memory")
			}
		}
	}
}

func TestGetListByDefinition(t *testing.T) {
	for _, l := range lists() {
		for _, ahead := range aheads() {
			b := append(bytes.Clone(ahead), listed(l)...)
			checkGetList(t, b, len(ahead), l, len(b), api.OK)
		}
	}
	checkGetList(t, []byte{2, 1, 0x61, 0}, 0, []string{"a", ""}, 4, api.OK)
	checkGetList(t, []byte{2, 1, 0x61, 0}, 3, nil, 4, api.OK)
}

func TestGetPassesTheErrorsOfTheNumber(t *testing.T) {
	for _, b := range [][]byte{nil, {}, {0}, {2, 1, 'a', 0}} {
		for _, at := range []int{-1, math.MinInt, len(b) + 1, math.MaxInt} {
			checkNoList(t, b, at, api.ErrRange)
		}
		checkNoList(t, b, len(b), api.ErrShort)
	}
	for _, b := range [][]byte{{0x80}, {0xc0, 1}, {0xff, 1, 2, 3, 4, 5, 6, 7}} {
		checkNoList(t, b, 0, api.ErrShort)
		checkNoList(t, append([]byte{0, 0}, b...), 2, api.ErrShort)
	}
	// Numbers that have a shorter encoding, with all that would follow them.
	for _, b := range [][]byte{{0x80, 0}, {0x80, 2}, {0x80, 127}, {0xc0, 0, 1}, {0xff, 0, 0, 0, 0, 0, 0, 0, 1}} {
		checkNoList(t, append(b, make([]byte, 300)...), 0, api.ErrForm)
	}
	// The spare room of a slice holds no bytes of it.
	checkNoList(t, []byte{0, 0, 0}[:1], 1, api.ErrShort)
	checkNoList(t, []byte{0, 0, 0}[:1], 2, api.ErrRange)
}

func TestGetTooMany(t *testing.T) {
	for _, b := range [][]byte{
		memtest.Number(api.MaxList + 1),
		memtest.Number(2 * api.MaxList),
		memtest.Number(1 << 21),
		{0xf0, 0x80, 0, 0, 0},
		{0xf1, 0, 0, 0, 0},
		{0xf1, 0, 0, 0, 1},
		{0xff, 0x7f, 0xff, 0xff, 0xff, 0xff, 0xff, 0xff, 0xff},
		{0xff, 0x80, 0, 0, 0, 0, 0, 0, 0},
		{0xff, 0x80, 0, 0, 0, 0, 0, 0, 1},
		{0xff, 0xff, 0xff, 0xff, 0xff, 0xff, 0xff, 0xff, 0xff},
	} {
		checkNoList(t, b, 0, api.ErrMany)
		checkNoList(t, append([]byte{0, 0}, b...), 2, api.ErrMany)
		checkNoList(t, append(b, make([]byte, 100)...), 0, api.ErrMany)
		// Too many are named ahead of the errors of the strings.
		checkNoList(t, append(b, 0x80, 0), 0, api.ErrMany)
	}
	// Lists that are there whole, but for their number of items.
	checkGetList(t, listed(make([]string, api.MaxList+1)), 0, nil, 0, api.ErrMany)
	checkGetPairs(t, paired(make([]api.Pair, api.MaxList+1)), 0, nil, 0, api.ErrMany)
	// As many as may be are not too many, even if they are not there.
	checkNoList(t, memtest.Number(api.MaxList), 0, api.ErrShort)
}

// wrongTexts are bytes that are no string, with the errors of reading one there.
func wrongTexts() map[api.Errno][][]byte {
	return map[api.Errno][][]byte{
		api.ErrShort: {{}, {1}, {0x80}, {3, 'a', 'b'}, memtest.Number(api.MaxItem), text(sized(api.MaxItem))[:api.MaxItem]},
		api.ErrForm:  {{0x80, 0}, {0x80, 1, 'a', 0, 0}, {0xc0, 0, 1, 'a'}},
		api.ErrLong: {
			memtest.Number(api.MaxItem + 1),
			text(sized(api.MaxItem + 1)),
			{0xff, 0x7f, 0xff, 0xff, 0xff, 0xff, 0xff, 0xff, 0xff},
			{0xff, 0xff, 0xff, 0xff, 0xff, 0xff, 0xff, 0xff, 0xff},
		},
	}
}

func TestGetListPassesTheErrorOfEachString(t *testing.T) {
	right := []string{"abc", "", sized(200)}
	for e, wrongs := range wrongTexts() {
		for _, wrong := range wrongs {
			for n := range len(right) + 1 {
				// The number is right: n strings and the wrong one.
				b := append(memtest.Number(n+1), listed(right[:n])[1:]...)
				checkGetList(t, append(b, wrong...), 0, nil, 0, e)
				checkGetList(t, append(append([]byte{9, 9}, b...), wrong...), 2, nil, 0, e)
			}
		}
	}
}

func TestGetListNamesTheFirstString(t *testing.T) {
	short, form, long := []byte{100}, []byte{0x80, 0}, memtest.Number(api.MaxItem+1)
	join := func(parts ...[]byte) []byte { return append([]byte{3, 1, 'a'}, slices.Concat(parts...)...) }
	checkGetList(t, join(form, long), 0, nil, 0, api.ErrForm)
	checkGetList(t, join(long, form), 0, nil, 0, api.ErrLong)
	checkGetList(t, join(short, form), 0, nil, 0, api.ErrShort)
	checkGetList(t, join([]byte{0}, form), 0, nil, 0, api.ErrForm)
	checkGetPairs(t, join(form, long), 0, nil, 0, api.ErrForm)
	checkGetPairs(t, join(long, form), 0, nil, 0, api.ErrLong)
	checkGetPairs(t, join([]byte{0}, long, form), 0, nil, 0, api.ErrLong)
	checkGetPairs(t, join([]byte{0}, []byte{0}, form), 0, nil, 0, api.ErrForm)
}

func TestGetOfEveryCut(t *testing.T) {
	strs := []string{"abc", "", sized(130), "x", ""}
	for cut, b := 0, listed(strs); cut < len(b); cut++ {
		checkGetList(t, b[:cut], 0, nil, 0, api.ErrShort)
		checkGetList(t, append(make([]byte, 20), b[:cut]...), 20, nil, 0, api.ErrShort)
	}
	pairs := couples(strs)
	for cut, b := 0, paired(pairs); cut < len(b); cut++ {
		checkGetPairs(t, b[:cut], 0, nil, 0, api.ErrShort)
		checkGetPairs(t, append(make([]byte, 20), b[:cut]...), 20, nil, 0, api.ErrShort)
	}
}

func TestGetListMakesNewMemory(t *testing.T) {
	want := []string{"abc", "", "defg"}
	for _, tail := range tails() {
		was := append(listed(want), tail...)
		b := memtest.Roomy(was, 0xee)
		l, _, _ := GetList(b, 0)
		if again, _, _ := GetList(b, 0); memtest.Shared(l, again) {
			t.Error("two results of GetList share memory")
		}
		memtest.Check(t, nil, b, was, 0xee)
		clear(b)
		if !slices.Equal(l, want) {
			t.Errorf("the strings changed with the bytes: %q", l)
		}
	}
	for _, was := range [][]byte{nil, {5}, {0x80, 0}, {2, 1, 'a', 9}} {
		b := memtest.Roomy(was, 0xee)
		GetList(b, 0)
		memtest.Check(t, nil, b, was, 0xee)
	}
}

// P4.2

func TestPutPairsKnown(t *testing.T) {
	checkPutPairs(t, nil, nil, []byte{0}, api.OK)
	checkPutPairs(t, []byte{}, []api.Pair{}, []byte{0}, api.OK)
	checkPutPairs(t, []byte{7, 8}, nil, []byte{7, 8, 0}, api.OK)
	// The number is that of the pairs, not of their strings, and their order and their doubles stay.
	l := []api.Pair{{Key: "b", Val: "cd"}, {Key: "a"}, {Val: "e"}, {Key: "b", Val: "cd"}, {}}
	checkPutPairs(t, []byte{7}, l, []byte{7, 5, 1, 'b', 2, 'c', 'd', 1, 'a', 0, 0, 1, 'e', 1, 'b', 2, 'c', 'd', 0, 0}, api.OK)
}

func TestPutPairsByDefinition(t *testing.T) {
	for _, l := range lists() {
		pairs := couples(l)
		for _, b := range aheads() {
			checkPutPairs(t, b, pairs, append(bytes.Clone(b), paired(pairs)...), api.OK)
		}
	}
}

func TestPutPairsTooMany(t *testing.T) {
	for _, n := range []int{api.MaxList + 1, api.MaxList + 2, 2 * api.MaxList} {
		checkPutPairs(t, nil, make([]api.Pair, n), nil, api.ErrMany)
		checkPutPairs(t, []byte{1, 2}, couples(counted(n)), nil, api.ErrMany)
	}
	for _, at := range []int{0, api.MaxList} {
		l := make([]api.Pair, api.MaxList+1)
		l[at] = api.Pair{Key: sized(api.MaxItem + 1), Val: sized(api.MaxItem + 1)}
		checkPutPairs(t, nil, l, nil, api.ErrMany)
	}
}

func TestPutPairsTooLong(t *testing.T) {
	for _, n := range []int{api.MaxItem + 1, api.MaxItem + 2, 2 * api.MaxItem} {
		for _, long := range []api.Pair{{Key: sized(n)}, {Val: sized(n)}, {Key: "a", Val: sized(n)}, {Key: sized(n), Val: sized(n)}} {
			for _, at := range []int{0, 1, 3} {
				l := []api.Pair{{Key: "a"}, {Val: "b"}, {Key: "c", Val: "d"}, {}}
				l[at] = long
				checkPutPairs(t, nil, l, nil, api.ErrLong)
				checkPutPairs(t, []byte{1, 2}, l, nil, api.ErrLong)
			}
		}
	}
	// The limit is that of a string, not of a pair.
	most := []api.Pair{{Key: sized(api.MaxItem), Val: sized(api.MaxItem)}}
	checkPutPairs(t, nil, most, paired(most), api.OK)
}

func TestPutPairsMakesNewMemory(t *testing.T) {
	for _, was := range [][]byte{nil, {1}, memtest.Mixed(100)} {
		for _, wasList := range [][]string{nil, {""}, {"abc", "", "defg"}, {sized(api.MaxItem + 1)}} {
			wasPairs, mark := couples(wasList), api.Pair{Key: "mark"}
			b, l := memtest.Roomy(was, 0xee), memtest.Roomy(wasPairs, mark)
			result, _ := PutPairs(b, l)
			memtest.Check(t, result, b, was, 0xee)
			memtest.Check(t, nil, l, wasPairs, mark)
			if again, _ := PutPairs(b, l); memtest.Shared(result, again) {
				t.Error("two results of PutPairs share memory")
			}
		}
	}
}

func TestGetPairsByDefinition(t *testing.T) {
	for _, l := range lists() {
		pairs := couples(l)
		for _, ahead := range aheads() {
			b := append(bytes.Clone(ahead), paired(pairs)...)
			checkGetPairs(t, b, len(ahead), pairs, len(b), api.OK)
		}
	}
	b := []byte{2, 1, 'b', 2, 'c', 'd', 0, 1, 'a'}
	checkGetPairs(t, b, 0, []api.Pair{{Key: "b", Val: "cd"}, {Val: "a"}}, 9, api.OK)
	checkGetPairs(t, b, 6, nil, 7, api.OK)
}

func TestGetPairsPassesTheErrorOfEachString(t *testing.T) {
	right := couples([]string{"abc", "", "d"})
	for e, wrongs := range wrongTexts() {
		for _, wrong := range wrongs {
			for n := range len(right) + 1 {
				b := append(memtest.Number(n+1), paired(right[:n])[1:]...)
				checkGetPairs(t, append(b, wrong...), 0, nil, 0, e)
				key := append(bytes.Clone(b), 1, 'k')
				checkGetPairs(t, append(key, wrong...), 0, nil, 0, e)
				checkGetPairs(t, append(append([]byte{9, 9}, key...), wrong...), 2, nil, 0, e)
			}
		}
	}
}

func TestGetPairsMakesNewMemory(t *testing.T) {
	want := couples([]string{"abc", "", "defg"})
	for _, tail := range tails() {
		was := append(paired(want), tail...)
		b := memtest.Roomy(was, 0xee)
		l, _, _ := GetPairs(b, 0)
		if again, _, _ := GetPairs(b, 0); memtest.Shared(l, again) {
			t.Error("two results of GetPairs share memory")
		}
		memtest.Check(t, nil, b, was, 0xee)
		clear(b)
		if !slices.Equal(l, want) {
			t.Errorf("the pairs changed with the bytes: %q", l)
		}
	}
	for _, was := range [][]byte{nil, {5}, {0x80, 0}, {2, 1, 'a', 9}} {
		b := memtest.Roomy(was, 0xee)
		GetPairs(b, 0)
		memtest.Check(t, nil, b, was, 0xee)
	}
}

// sign is -1, 0 or 1, as n stands to 0.
func sign(n int) int {
	switch {
	case n < 0:
		return -1
	case n > 0:
		return 1
	}
	return 0
}

func TestOrderOfAllPairs(t *testing.T) {
	var pairs []api.Pair
	for _, key := range memtest.Rising() {
		for _, val := range memtest.Rising() {
			pairs = append(pairs, api.Pair{Key: key, Val: val})
		}
	}
	for i, a := range pairs {
		for j, b := range pairs {
			if got := Order(a, b); got != sign(i-j) {
				t.Errorf("Order(%q, %q) = %d, want %d", a, b, got, sign(i-j))
			}
		}
	}
}

func TestOrderOfLongStrings(t *testing.T) {
	long := strings.Repeat("a", api.MaxItem)
	for _, x := range []struct {
		a, b api.Pair
		want int
	}{
		{api.Pair{Key: long}, api.Pair{Key: long}, 0},
		{api.Pair{Key: long}, api.Pair{Key: long + "a"}, -1},
		{api.Pair{Key: long + "b"}, api.Pair{Key: long + "a", Val: "z"}, 1},
		{api.Pair{Key: long, Val: long + "a"}, api.Pair{Key: long, Val: long + "b"}, -1},
		{api.Pair{Key: long, Val: long}, api.Pair{Key: long, Val: "a"}, 1},
	} {
		if got := Order(x.a, x.b); got != x.want {
			t.Errorf("Order of long pairs = %d, want %d", got, x.want)
		}
		if got := Order(x.b, x.a); got != -x.want {
			t.Errorf("Order of long pairs, turned = %d, want %d", got, -x.want)
		}
	}
}

func checkSorted(t *testing.T, l []api.Pair, want bool) {
	t.Helper()
	if got := Sorted(l); got != want {
		t.Errorf("Sorted of %d pairs = %t", len(l), got)
	}
}

func TestSortedOfFew(t *testing.T) {
	checkSorted(t, nil, true)
	checkSorted(t, []api.Pair{}, true)
	checkSorted(t, []api.Pair{{}}, true)
	checkSorted(t, []api.Pair{{Key: "z", Val: "a"}}, true)
	for i, first := range memtest.Rising() {
		for j, second := range memtest.Rising() {
			// The Vals neither help nor harm.
			checkSorted(t, []api.Pair{{Key: first}, {Key: second}}, i < j)
			checkSorted(t, []api.Pair{{Key: first, Val: "a"}, {Key: second, Val: "b"}}, i < j)
			checkSorted(t, []api.Pair{{Key: first, Val: "b"}, {Key: second, Val: "a"}}, i < j)
		}
	}
}

func TestSortedOfMany(t *testing.T) {
	keys := memtest.Rising()
	l := couples(keys)
	checkSorted(t, l, true)
	for i := 1; i < len(l); i++ {
		swapped := slices.Clone(l)
		swapped[i-1], swapped[i] = swapped[i], swapped[i-1]
		checkSorted(t, swapped, false)
		twice := slices.Clone(l)
		twice[i].Key = twice[i-1].Key
		checkSorted(t, twice, false)
		back := slices.Clone(l)
		back[i].Key = back[0].Key
		checkSorted(t, back, false)
	}
	// No list is too long to be looked at, nor any string.
	long := make([]api.Pair, api.MaxList+2)
	for i := range long {
		long[i].Key = strings.Repeat("0", 10-len(strconv.Itoa(i))) + strconv.Itoa(i)
	}
	checkSorted(t, long, true)
	long[len(long)-1].Key = long[len(long)-2].Key
	checkSorted(t, long, false)
	long[len(long)-1].Key = strings.Repeat("z", api.MaxItem+1)
	checkSorted(t, long, true)
}

func TestSortedChangesNothing(t *testing.T) {
	was := couples([]string{"b", "a", "c"})
	l := memtest.Roomy(was, api.Pair{Key: "mark"})
	Sorted(l)
	memtest.Check(t, nil, l, was, api.Pair{Key: "mark"})
}

// P4.3

func TestListsAreReadBack(t *testing.T) {
	for _, l := range lists() {
		pairs := couples(l)
		for _, tail := range tails() {
			b, _ := PutList([]byte{200}, l)
			checkGetList(t, append(b, tail...), 1, l, len(b), api.OK)
			b, _ = PutPairs([]byte{200}, pairs)
			checkGetPairs(t, append(b, tail...), 1, pairs, len(b), api.OK)
		}
	}
}

func TestOneBehindTheOther(t *testing.T) {
	var b []byte
	for _, l := range lists() {
		b, _ = PutList(b, l)
		b, _ = PutPairs(b, couples(l))
	}
	at := 0
	for _, want := range lists() {
		l, next, e1 := GetList(b, at)
		pairs, next, e2 := GetPairs(b, next)
		if !slices.Equal(l, want) || !slices.Equal(pairs, couples(want)) || e1 != api.OK || e2 != api.OK {
			t.Fatalf("a list of %d strings was read as %d strings and %d pairs with %d, %d", len(want), len(l), len(pairs), e1, e2)
		}
		at = next
	}
	if at != len(b) {
		t.Errorf("the last list ends at %d of %d", at, len(b))
	}
}

// checkWrittenAgain fails if the lists that are read at index at are not written as the same bytes, or if an error comes with more.
func checkWrittenAgain(t *testing.T, b []byte, at int) {
	t.Helper()
	l, next, e := GetList(b, at)
	if e != api.OK && (len(l) != 0 || next != 0) {
		t.Errorf("GetList(%x, %d) = %q, %d, %d", b, at, l, next, e)
	}
	if again, bad := PutList(nil, l); e == api.OK && (bad != api.OK || !bytes.Equal(again, b[at:next])) {
		t.Errorf("GetList(%x, %d) = %q, which PutList writes as %x, %d", b, at, l, again, bad)
	}
	pairs, next, e := GetPairs(b, at)
	if e != api.OK && (len(pairs) != 0 || next != 0) {
		t.Errorf("GetPairs(%x, %d) = %q, %d, %d", b, at, pairs, next, e)
	}
	if again, bad := PutPairs(nil, pairs); e == api.OK && (bad != api.OK || !bytes.Equal(again, b[at:next])) {
		t.Errorf("GetPairs(%x, %d) = %q, which PutPairs writes as %x, %d", b, at, pairs, again, bad)
	}
}

func TestShortBytesAreWrittenAgain(t *testing.T) {
	for _, b := range memtest.Short([]byte{0, 1, 2, 3, 0x80, 0xc1, 0xff}, 5) {
		checkWrittenAgain(t, b, 0)
	}
}

func FuzzWrittenAgain(f *testing.F) {
	f.Add([]byte{2, 1, 'a', 0}, 0)
	f.Add(paired(couples([]string{"abc", "", "d"})), 0)
	f.Add([]byte{9, 0x80, 0}, 1)
	f.Add([]byte{0xc1, 0, 1}, 0)
	f.Fuzz(checkWrittenAgain)
}
