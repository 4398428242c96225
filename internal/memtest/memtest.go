// Package memtest helps the tests of the layers: it makes bytes, strings and values to try calls with and numbers as they are written, and shows that a call neither changes its arguments nor shares memory with them.
package memtest

import (
	"math"

	"gristmill/api"
)

// Reporter is what Check needs of a test.
type Reporter interface {
	Helper()
	Error(args ...any)
}

// Mixed returns so many bytes without a pattern, the same ones each time.
func Mixed(n int) []byte {
	b := make([]byte, n)
	x := uint32(n) + 1
	for i := range b {
		x = x*1664525 + 1013904223
		b[i] = byte(x >> 24)
	}
	return b
}

// Number returns n as chapter 1 writes it, for numbers below 2^28: it shares nothing with vint.
func Number(n int) []byte {
	switch {
	case n < 1<<7:
		return []byte{byte(n)}
	case n < 1<<14:
		return []byte{0x80 | byte(n>>8), byte(n)}
	case n < 1<<21:
		return []byte{0xc0 | byte(n>>16), byte(n >> 8), byte(n)}
	}
	return []byte{0xe0 | byte(n>>24), byte(n >> 16), byte(n >> 8), byte(n)}
}

// Rising returns strings, each greater than those before it: a proper prefix is less, the first unlike byte decides, whatever the lengths, and bytes have no sign and no case.
func Rising() []string {
	return []string{"", "\x00", "\x00\x00", "\x01", "-1", "10", "9", "A", "B", "a", "a\x00", "aa", "ab", "b", "ba", "z", "\x7f", "\x80", "é", "é\x00", "\xff", "\xff\x00", "\xff\xff"}
}

// Short returns all sequences of at most so many of the bytes, the shorter ones first.
func Short(letters []byte, most int) [][]byte {
	all := [][]byte{nil}
	from := 0
	for range most {
		to := len(all)
		for _, b := range all[from:to] {
			for _, c := range letters {
				all = append(all, append(b[:len(b):len(b)], c))
			}
		}
		from = to
	}
	return all
}

// Disguised returns values that mean the same as v, v first: its other field is not empty, and a string's kind is any but that of numbers.
func Disguised(v api.Val) []api.Val {
	if v.Kind == api.Num {
		return []api.Val{v, {Kind: api.Num, Int: v.Int, Text: "x"}, {Kind: api.Num, Int: v.Int, Text: "-1"}, {Kind: api.Num, Int: v.Int, Text: "\xff"}}
	}
	l := []api.Val{v}
	for _, kind := range []uint8{1, 2, 3, 127, 128, 254, 255} {
		for _, n := range []int{math.MinInt, -1, 0, 7, math.MaxInt} {
			l = append(l, api.Val{Kind: kind, Int: n, Text: v.Text})
		}
	}
	return l
}

// room is how far behind the end of a slice a write shows.
const room = 32

// Roomy returns the items in a slice whose spare room is filled with marks.
func Roomy[T any](items []T, mark T) []T {
	whole := append(make([]T, 0, len(items)+room), items...)
	for range room {
		whole = append(whole, mark)
	}
	return whole[:len(items)]
}

// Kept tells whether a slice that Roomy made holds the items and the marks still.
func Kept[T comparable](slice, items []T, mark T) bool {
	if len(slice) != len(items) || cap(slice) < len(items)+room {
		return false
	}
	for i, x := range slice[:len(items)+room] {
		if i < len(items) && x != items[i] || i >= len(items) && x != mark {
			return false
		}
	}
	return true
}

// Check reports if a slice that Roomy made is not as it was, or if a result shares memory with it.
func Check[T comparable](r Reporter, result, slice, items []T, mark T) {
	r.Helper()
	if !Kept(slice, items, mark) {
		r.Error("the argument was changed: ", slice[:cap(slice)], ", was ", items)
	}
	if Shared(result, slice) {
		r.Error("the result shares memory with the argument: ", result)
	}
}

// Shared tells whether two slices reach the same memory, be it by their spare room.
func Shared[T any](a, b []T) bool {
	return beginsIn(a, b) || beginsIn(b, a)
}

func beginsIn[T any](a, b []T) bool {
	if cap(a) == 0 {
		return false
	}
	first := &a[:1][0]
	b = b[:cap(b)]
	for i := range b {
		if &b[i] == first {
			return true
		}
	}
	return false
}
