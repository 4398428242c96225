package crc

import (
	"bytes"
	"hash/crc32"
	"math"
	"testing"

	"gristmill/api"
	"gristmill/internal/memtest"
)

// known are byte sequences with their checksums, as other programs give them.
var known = []struct {
	text string
	sum  uint32
}{
	{"", 0},
	{"\x00", 0xd202ef8d},
	{"\xff", 0xff000000},
	{"a", 0xe8b7be43},
	{"abc", 0x352441c2},
	{"123456789", 0xcbf43926},
	{"\x00\x00\x00\x00", 0x2144df1c},
	{"\xff\xff\xff\xff", 0xffffffff},
	{"The quick brown fox jumps over the lazy dog", 0x414fa339},
}

// samples are byte sequences of many lengths, the known ones and the plainest among them.
func samples() [][]byte {
	var out [][]byte
	for _, x := range known {
		out = append(out, []byte(x.text))
	}
	for _, n := range []int{1, 2, 3, 4, 5, 7, 8, 9, 63, 64, 65, 255, 256, 1000, 1<<16 + 1} {
		out = append(out, memtest.Mixed(n), make([]byte, n), bytes.Repeat([]byte{0xff}, n))
	}
	return out
}

// P2.1

// stepped does the eight steps of the chapter's words, on bits as a list, the least significant one first.
func stepped(state uint32, c byte) uint32 {
	state ^= uint32(c)
	var bits [33]bool
	for i := range 32 {
		bits[i] = state>>i&1 == 1
	}
	for range 8 {
		one := bits[0]
		copy(bits[:32], bits[1:])
		for i := range 32 {
			bits[i] = bits[i] != (one && 0xedb88320>>i&1 == 1)
		}
	}
	out := uint32(0)
	for i := range 32 {
		if bits[i] {
			out |= 1 << i
		}
	}
	return out
}

func TestByteBySteps(t *testing.T) {
	states := []uint32{0, 1, 0x80, 0xff, 0x100, 0x80000000, 0xedb88320, 0xfffffffe, math.MaxUint32, 0x12345678}
	for shift := range 32 {
		states = append(states, 1<<shift, 0x9e3779b9>>shift)
	}
	for _, state := range states {
		for c := range 256 {
			if n, want := Byte(state, byte(c)), stepped(state, byte(c)); n != want {
				t.Errorf("Byte(%x, %x) = %x, want %x", state, c, n, want)
			}
		}
	}
}

func TestByteOfKnownStates(t *testing.T) {
	if n := Byte(0, 0); n != 0 {
		t.Errorf("Byte(0, 0) = %x", n)
	}
	if n := Byte(0, 128); n != 0xedb88320 {
		t.Errorf("one bit that is reached by the last step: %x", n)
	}
	if n := Byte(0, 1); n != 0x77073096 {
		t.Errorf("Byte(0, 1) = %x", n)
	}
	if n := Byte(0xffffff00, 0); n != 0x00ffffff {
		t.Errorf("a state whose lowest eight bits are 0 is only shifted: %x", n)
	}
}

func TestOfKnown(t *testing.T) {
	for _, x := range known {
		if n := Of([]byte(x.text)); n != x.sum {
			t.Errorf("Of(%q) = %x, want %x", x.text, n, x.sum)
		}
	}
	if n := Of(nil); n != 0 {
		t.Errorf("Of(nil) = %x", n)
	}
}

func TestOfAppliesByteInOrder(t *testing.T) {
	for _, b := range samples() {
		state := uint32(0xffffffff)
		for _, c := range b {
			state = stepped(state, c)
		}
		if n := Of(b); n != ^state || n != crc32.ChecksumIEEE(b) {
			t.Errorf("Of of %d bytes = %x, want %x", len(b), n, ^state)
		}
	}
}

func TestMoreStartsWithTheComplement(t *testing.T) {
	for _, sum := range []uint32{0, 1, 0xcbf43926, 0x80000000, 0x7fffffff, math.MaxUint32} {
		for _, b := range samples() {
			state := ^sum
			for _, c := range b {
				state = stepped(state, c)
			}
			if n := More(sum, b); n != ^state || n != crc32.Update(sum, crc32.IEEETable, b) {
				t.Errorf("More(%x, %d bytes) = %x, want %x", sum, len(b), n, ^state)
			}
		}
		if n := More(sum, nil); n != sum {
			t.Errorf("More(%x, nil) = %x", sum, n)
		}
	}
}

func TestSumsArePure(t *testing.T) {
	was := memtest.Mixed(40)
	b := memtest.Roomy(was, 0xee)
	first, more := Of(b), More(7, b)
	Of([]byte("between"))
	if Of(b) != first || More(7, b) != more {
		t.Error("a checksum hangs on the calls before it")
	}
	memtest.Check(t, nil, b, was, 0xee)
}

// P2.2

func TestPut(t *testing.T) {
	for _, x := range known {
		want := append([]byte(x.text), byte(x.sum), byte(x.sum>>8), byte(x.sum>>16), byte(x.sum>>24))
		if b := Put([]byte(x.text)); !bytes.Equal(b, want) {
			t.Errorf("Put(%q) = %x, want %x", x.text, b, want)
		}
	}
	if b := Put([]byte("123456789")); !bytes.Equal(b, []byte("123456789\x26\x39\xf4\xcb")) {
		t.Errorf("the order of the four bytes: %x", b)
	}
	if b := Put(nil); !bytes.Equal(b, make([]byte, 4)) {
		t.Errorf("Put(nil) = %x", b)
	}
}

func checkTake(t *testing.T, b, want []byte, e api.Errno) {
	t.Helper()
	if got, gotE := Take(b); !bytes.Equal(got, want) || gotE != e {
		t.Errorf("Take(%d bytes) = %d bytes, %d; want %d bytes, %d", len(b), len(got), gotE, len(want), e)
	}
}

func TestTakeKnown(t *testing.T) {
	for _, x := range known {
		b := append([]byte(x.text), byte(x.sum), byte(x.sum>>8), byte(x.sum>>16), byte(x.sum>>24))
		checkTake(t, b, []byte(x.text), api.OK)
	}
}

func TestTakeTooFewBytes(t *testing.T) {
	checkTake(t, nil, nil, api.ErrShort)
	for n := range 4 {
		checkTake(t, make([]byte, n), nil, api.ErrShort)
		checkTake(t, memtest.Mixed(n), nil, api.ErrShort)
		// The spare room of a slice holds no bytes of it.
		checkTake(t, make([]byte, n, 8), nil, api.ErrShort)
	}
	checkTake(t, make([]byte, 4), nil, api.OK)
}

func TestTakeWrongSum(t *testing.T) {
	checkTake(t, []byte{0, 0, 0, 1}, nil, api.ErrSum)
	checkTake(t, []byte{1, 0, 0, 0}, nil, api.ErrSum)
	checkTake(t, make([]byte, 5), nil, api.ErrSum)
	sum := []byte{0x26, 0x39, 0xf4, 0xcb}
	checkTake(t, append([]byte("123456789"), sum...), []byte("123456789"), api.OK)
	checkTake(t, append([]byte("123456789"), sum[3], sum[2], sum[1], sum[0]), nil, api.ErrSum)
	checkTake(t, append(bytes.Clone(sum), "123456789"...), nil, api.ErrSum)
	checkTake(t, append([]byte("12345678"), sum...), nil, api.ErrSum)
	checkTake(t, append([]byte("1234567890"), sum...), nil, api.ErrSum)
	checkTake(t, append([]byte("123456798"), sum...), nil, api.ErrSum)
	checkTake(t, []byte("123456789"), nil, api.ErrSum)
}

func TestTakeOfEveryCut(t *testing.T) {
	whole := Put(memtest.Mixed(50))
	for cut := 4; cut < len(whole); cut++ {
		checkTake(t, whole[:cut], nil, api.ErrSum)
	}
	checkTake(t, append(bytes.Clone(whole), 0), nil, api.ErrSum)
}

func TestPutIsTaken(t *testing.T) {
	for _, b := range samples() {
		checkTake(t, Put(b), b, api.OK)
		checkTake(t, Put(Put(b)), Put(b), api.OK)
	}
}

func TestPutAndTakeMakeNewMemory(t *testing.T) {
	for _, was := range [][]byte{nil, {1}, {1, 2, 3}, memtest.Mixed(100)} {
		b := memtest.Roomy(was, 0xee)
		result := Put(b)
		memtest.Check(t, result, b, was, 0xee)
		if memtest.Shared(result, Put(b)) {
			t.Error("two results of Put share memory")
		}
		whole := memtest.Roomy(result, 0xee)
		taken, _ := Take(whole)
		memtest.Check(t, taken, whole, result, 0xee)
		if again, _ := Take(whole); memtest.Shared(taken, again) {
			t.Error("two results of Take share memory")
		}
	}
	for _, was := range [][]byte{{1, 2}, memtest.Mixed(30)} {
		b := memtest.Roomy(was, 0xee)
		result, _ := Take(b)
		memtest.Check(t, result, b, was, 0xee)
	}
}

// P2.3

func TestMoreGoesOn(t *testing.T) {
	for _, b := range samples() {
		for _, cut := range []int{0, 1, len(b) / 3, len(b) / 2, len(b) - 1, len(b)} {
			if cut = min(max(cut, 0), len(b)); More(Of(b[:cut]), b[cut:]) != Of(b) {
				t.Errorf("%d bytes cut at %d", len(b), cut)
			}
		}
	}
	b := memtest.Mixed(100)
	sum := uint32(0)
	for i := range b {
		sum = More(sum, b[i:i+1])
		if sum != Of(b[:i+1]) {
			t.Errorf("byte by byte, after byte %d: %x", i, sum)
		}
	}
}

// checkChanged fails if Take does not see that the four bytes from index at on are combined with change.
func checkChanged(t *testing.T, whole []byte, at int, change [4]byte) {
	t.Helper()
	b := bytes.Clone(whole)
	for i, c := range change {
		b[at+i] ^= c
	}
	if got, e := Take(b); e != api.ErrSum || len(got) != 0 {
		t.Errorf("%d bytes, those from %d on combined with %x: %x, %d", len(b), at, change, got, e)
	}
}

func TestChangedBytesAreSeen(t *testing.T) {
	for _, n := range []int{0, 1, 2, 3, 4, 5, 9, 30} {
		whole := Put(memtest.Mixed(n))
		for at := range len(whole) - 3 {
			for i := range 4 {
				for c := 1; c < 256; c++ {
					var change [4]byte
					change[i] = byte(c)
					checkChanged(t, whole, at, change)
				}
			}
			for x := uint32(1); x < 1<<32-1<<21; x += 1<<21 - 77 {
				checkChanged(t, whole, at, [4]byte{byte(x), byte(x >> 8), byte(x >> 16), byte(x >> 24)})
			}
		}
	}
}

func TestTwoChangedBytesAreSeen(t *testing.T) {
	whole := Put(memtest.Mixed(6))
	for at := range len(whole) - 3 {
		for x := 1; x < 1<<16; x++ {
			checkChanged(t, whole, at, [4]byte{byte(x), 0, 0, byte(x >> 8)})
		}
	}
}

func FuzzTake(f *testing.F) {
	for _, x := range known {
		f.Add([]byte(x.text))
		f.Add(Put([]byte(x.text)))
	}
	f.Fuzz(func(t *testing.T, b []byte) {
		checkTake(t, Put(b), b, api.OK)
		got, e := Take(b)
		switch {
		case len(b) < 4 && e == api.ErrShort, e == api.ErrSum:
			if len(got) != 0 {
				t.Errorf("Take(%x) = %x, %d", b, got, e)
			}
		case e != api.OK || !bytes.Equal(Put(got), b):
			t.Errorf("Take(%x) = %x, %d", b, got, e)
		}
	})
}
