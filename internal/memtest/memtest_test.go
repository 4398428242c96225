package memtest

import (
	"bytes"
	"testing"

	"gristmill/api"
)

func TestMixed(t *testing.T) {
	b := Mixed(1000)
	if len(b) != 1000 || !bytes.Equal(b, Mixed(1000)) || len(Mixed(0)) != 0 {
		t.Error("the bytes are not the same each time")
	}
	for c := range 256 {
		if n := bytes.Count(b, []byte{byte(c)}); n > 20 {
			t.Errorf("%d of 1000 bytes are %d", n, c)
		}
	}
}

func TestNumber(t *testing.T) {
	for n, want := range map[int][]byte{
		0:         {0},
		5:         {5},
		1<<7 - 1:  {0x7f},
		1 << 7:    {0x80, 0x80},
		300:       {0x81, 0x2c},
		1<<14 - 1: {0xbf, 0xff},
		1 << 14:   {0xc0, 0x40, 0},
		1<<21 - 1: {0xdf, 0xff, 0xff},
		1 << 21:   {0xe0, 0x20, 0, 0},
		1<<28 - 1: {0xef, 0xff, 0xff, 0xff},
	} {
		if b := Number(n); !bytes.Equal(b, want) {
			t.Errorf("Number(%d) = %x, want %x", n, b, want)
		}
	}
}

func TestRising(t *testing.T) {
	l := Rising()
	if len(l) < 20 || l[0] != "" {
		t.Errorf("%q", l)
	}
	for i := 1; i < len(l); i++ {
		if bytes.Compare([]byte(l[i-1]), []byte(l[i])) != -1 {
			t.Errorf("%q is not greater than %q", l[i], l[i-1])
		}
	}
}

func TestShort(t *testing.T) {
	want := []string{"", "a", "b", "aa", "ab", "ba", "bb"}
	got := Short([]byte("ab"), 2)
	if len(got) != len(want) {
		t.Fatalf("%q", got)
	}
	for i, b := range got {
		if string(b) != want[i] {
			t.Errorf("%d: %q, want %q", i, b, want[i])
		}
		for _, other := range got[:i] {
			if Shared(b, other) {
				t.Errorf("%q and %q share memory", b, other)
			}
		}
	}
	if l := Short([]byte("abc"), 6); len(l) != 1+3+9+27+81+243+729 {
		t.Errorf("%d sequences", len(l))
	}
	if l := Short(nil, 3); len(l) != 1 || len(l[0]) != 0 || len(Short([]byte("a"), 0)) != 1 {
		t.Errorf("%q", l)
	}
}

func TestDisguised(t *testing.T) {
	for _, v := range []api.Val{{}, {Kind: api.Num, Int: -7}, {Kind: api.Str}, {Kind: api.Str, Text: "a"}} {
		l := Disguised(v)
		if len(l) < 4 || l[0] != v {
			t.Errorf("%v: %v", v, l)
		}
		for _, same := range l {
			if (same.Kind == api.Num) != (v.Kind == api.Num) || v.Kind == api.Num && same.Int != v.Int || v.Kind != api.Num && same.Text != v.Text {
				t.Errorf("%v does not mean the same as %v", same, v)
			}
		}
	}
}

func TestRoomyHoldsTheItems(t *testing.T) {
	items := []int{1, 2, 3}
	slice := Roomy(items, -1)
	if len(slice) != 3 || slice[0] != 1 || slice[2] != 3 || slice[:4][3] != -1 {
		t.Error(slice[:cap(slice)])
	}
	if !Kept(slice, items, -1) || !Kept(Roomy(nil, 7), nil, 7) {
		t.Error("an untouched slice was not kept")
	}
}

func TestKeptSeesWrites(t *testing.T) {
	items := []int{1, 2, 3}
	for at := range len(items) + room {
		slice := Roomy(items, -1)
		slice[:len(items)+room][at] = 9
		if Kept(slice, items, -1) {
			t.Errorf("a write at %d was not seen", at)
		}
	}
	if slice := Roomy(items, -1); Kept(slice[:2], items, -1) || Kept(slice, items[:2], -1) || Kept(items, items, -1) {
		t.Error("another slice was not seen")
	}
}

func TestShared(t *testing.T) {
	slice := Roomy([]int{1, 2, 3}, -1)
	whole := slice[:cap(slice)]
	for from := range whole {
		if piece := whole[from:from]; !Shared(piece, slice) || !Shared(slice, piece) {
			t.Errorf("the memory from %d on is shared", from)
		}
		if Shared(whole[:from:from], whole[from:]) || Shared(whole[from:], whole[:from:from]) {
			t.Errorf("the memory ahead of %d is not that behind", from)
		}
	}
	if Shared(slice, Roomy([]int{1, 2, 3}, -1)) || Shared(slice, nil) || Shared(nil, slice) || Shared[int](nil, nil) {
		t.Error("a copy shares no memory")
	}
}

// counted is a Reporter that counts.
type counted struct{ errors int }

func (c *counted) Helper() {}

func (c *counted) Error(args ...any) { c.errors++ }

func TestCheckReports(t *testing.T) {
	items := []int{1, 2, 3}
	slice := Roomy(items, -1)
	var c counted
	if Check(&c, []int{1}, slice, items, -1); c.errors != 0 {
		t.Error("a copy was reported")
	}
	if Check(&c, slice[3:], slice, items, -1); c.errors != 1 {
		t.Error("shared memory was not reported")
	}
	slice[1] = 9
	if Check(&c, []int{1}, slice, items, -1); c.errors != 2 {
		t.Error("a change was not reported")
	}
}
