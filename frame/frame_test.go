package frame

import (
	"bytes"
	"hash/crc32"
	"math"
	"testing"

	"gristmill/api"
	"gristmill/internal/memtest"
)

// lengths are those at which a frame's own length changes, with their neighbours, the least and the greatest ones.
var lengths = []int{0, 1, 2, 3, 9, 126, 127, 128, 129, 1000, 1<<14 - 1, 1 << 14, 1<<14 + 1, 1 << 16, api.MaxBytes - 1, api.MaxBytes}

// summed returns the bytes followed by their checksum.
func summed(body []byte) []byte {
	sum := crc32.ChecksumIEEE(body)
	return append(bytes.Clone(body), byte(sum), byte(sum>>8), byte(sum>>16), byte(sum>>24))
}

// framed is a frame by the words of the chapter.
func framed(data []byte) []byte {
	return summed(append(memtest.Number(len(data)), data...))
}

// P3.1

func checkPut(t *testing.T, b, data, want []byte, e api.Errno) {
	t.Helper()
	if got, gotE := Put(b, data); !bytes.Equal(got, want) || gotE != e {
		t.Errorf("Put(%d bytes, %d bytes) = %d bytes, %d; want %d bytes, %d", len(b), len(data), len(got), gotE, len(want), e)
	}
}

func TestPutKnown(t *testing.T) {
	checkPut(t, nil, nil, []byte{0, 0x8d, 0xef, 0x02, 0xd2}, api.OK)
	checkPut(t, []byte{}, []byte{}, []byte{0, 0x8d, 0xef, 0x02, 0xd2}, api.OK)
	checkPut(t, []byte{7, 8}, nil, []byte{7, 8, 0, 0x8d, 0xef, 0x02, 0xd2}, api.OK)
	if b, e := Put(nil, []byte{9}); len(b) != 6 || e != api.OK {
		t.Errorf("the chapter's example: %x, %d", b, e)
	}
}

func TestPutOfManyLengths(t *testing.T) {
	for _, n := range lengths {
		for _, data := range [][]byte{make([]byte, n), memtest.Mixed(n)} {
			for _, b := range [][]byte{nil, {1}, framed([]byte("ahead"))} {
				checkPut(t, b, data, append(bytes.Clone(b), framed(data)...), api.OK)
			}
		}
	}
}

func TestPutTooLong(t *testing.T) {
	for _, n := range []int{api.MaxBytes + 1, api.MaxBytes + 2, 2 * api.MaxBytes, 1 << 24} {
		checkPut(t, nil, make([]byte, n), nil, api.ErrLong)
		checkPut(t, []byte{1, 2}, make([]byte, n), nil, api.ErrLong)
	}
	// Only the data has a limit, not that to which it is put.
	long := memtest.Mixed(2 * api.MaxBytes)
	checkPut(t, long, []byte{9}, append(bytes.Clone(long), framed([]byte{9})...), api.OK)
}

func TestSize(t *testing.T) {
	for _, n := range lengths {
		if got, want := Size(n), len(framed(make([]byte, n))); got != want {
			t.Errorf("Size(%d) = %d, want %d", n, got, want)
		}
	}
	for n := range 1 << 15 {
		if got, want := Size(n), len(memtest.Number(n))+n+4; got != want {
			t.Errorf("Size(%d) = %d, want %d", n, got, want)
		}
	}
	for _, n := range []int{-1, -2, math.MinInt, api.MaxBytes + 1, api.MaxBytes + 2, math.MaxInt} {
		if got := Size(n); got != 0 {
			t.Errorf("Size(%d) = %d", n, got)
		}
	}
}

func TestPutMakesNewMemory(t *testing.T) {
	for _, was := range [][]byte{nil, {1}, memtest.Mixed(100)} {
		for _, wasData := range [][]byte{nil, {1}, memtest.Mixed(200)} {
			b, data := memtest.Roomy(was, 0xee), memtest.Roomy(wasData, 0xdd)
			result, _ := Put(b, data)
			memtest.Check(t, result, b, was, 0xee)
			memtest.Check(t, result, data, wasData, 0xdd)
			if again, _ := Put(b, data); memtest.Shared(result, again) {
				t.Error("two results of Put share memory")
			}
		}
	}
	was := memtest.Mixed(api.MaxBytes + 1)
	data := memtest.Roomy(was, 0xdd)
	Put(nil, data)
	memtest.Check(t, nil, data, was, 0xdd)
}

// P3.2

func checkGet(t *testing.T, b []byte, at int, want []byte, next int, e api.Errno) {
	t.Helper()
	if got, gotNext, gotE := Get(b, at); !bytes.Equal(got, want) || gotNext != next || gotE != e {
		t.Errorf("Get(%d bytes, %d) = %d bytes, %d, %d; want %d bytes, %d, %d", len(b), at, len(got), gotNext, gotE, len(want), next, e)
	}
}

func TestGetOfManyLengths(t *testing.T) {
	for _, n := range lengths {
		data := memtest.Mixed(n)
		one := framed(data)
		checkGet(t, one, 0, data, len(one), api.OK)
		for _, ahead := range [][]byte{{0xff}, framed([]byte("ahead")), make([]byte, 300)} {
			b := append(append(bytes.Clone(ahead), one...), 0xff, 0, 1)
			checkGet(t, b, len(ahead), data, len(ahead)+len(one), api.OK)
		}
	}
}

func TestGetPassesTheErrorsOfTheLength(t *testing.T) {
	one := framed([]byte("abc"))
	for _, at := range []int{-1, math.MinInt, len(one) + 1, math.MaxInt} {
		checkGet(t, one, at, nil, 0, api.ErrRange)
		checkGet(t, nil, at, nil, 0, api.ErrRange)
	}
	checkGet(t, nil, 0, nil, 0, api.ErrShort)
	checkGet(t, one, len(one), nil, 0, api.ErrShort)
	for _, b := range [][]byte{{0x80}, {0xc0, 1}, {0xff, 1, 2, 3, 4, 5, 6, 7}} {
		checkGet(t, b, 0, nil, 0, api.ErrShort)
	}
	// Numbers that have a shorter encoding, with all that would follow them.
	for _, b := range [][]byte{{0x80, 0}, {0x80, 127}, {0xc0, 0, 3}, {0xff, 0, 0, 0, 0, 0, 0, 0, 1}} {
		checkGet(t, summed(append(b, "abc"...)), 0, nil, 0, api.ErrForm)
	}
	checkGet(t, summed([]byte{0x80, 0}), 0, nil, 0, api.ErrForm)
	checkGet(t, summed([]byte{0xc0, 0, 1, 7}), 0, nil, 0, api.ErrForm)
}

func TestGetTooLong(t *testing.T) {
	checkGet(t, memtest.Number(api.MaxBytes+1), 0, nil, 0, api.ErrLong)
	checkGet(t, memtest.Number(1<<21), 0, nil, 0, api.ErrLong)
	checkGet(t, append(memtest.Number(api.MaxBytes+1), memtest.Mixed(100)...), 0, nil, 0, api.ErrLong)
	checkGet(t, append(framed(nil), memtest.Number(api.MaxBytes+1)...), 5, nil, 0, api.ErrLong)
	// A frame that would be intact, but for its length.
	checkGet(t, framed(memtest.Mixed(api.MaxBytes+1)), 0, nil, 0, api.ErrLong)
	for _, b := range [][]byte{
		{0xf0, 0x80, 0, 0, 0},
		{0xf0, 0xff, 0xff, 0xff, 0xff},
		{0xff, 0x7f, 0xff, 0xff, 0xff, 0xff, 0xff, 0xff, 0xff},
		{0xff, 0x80, 0, 0, 0, 0, 0, 0, 0},
		{0xff, 0xff, 0xff, 0xff, 0xff, 0xff, 0xff, 0xff, 0xff},
		{0xff, 0xff, 0xff, 0xff, 0xff, 0xff, 0xff, 0xff, 0xfb},
		{0xff, 0xff, 0xff, 0xff, 0xff, 0xff, 0xff, 0xff, 0xf0},
	} {
		checkGet(t, b, 0, nil, 0, api.ErrLong)
		checkGet(t, append(b, memtest.Mixed(50)...), 0, nil, 0, api.ErrLong)
	}
}

func TestGetTooFewBytes(t *testing.T) {
	for _, n := range []int{0, 1, 3, 127, 128, 300} {
		one := framed(memtest.Mixed(n))
		for cut := range one {
			checkGet(t, one[:cut], 0, nil, 0, api.ErrShort)
			// The spare room of a slice holds no bytes of it, nor do the bytes ahead of the frame count.
			b := append(make([]byte, 20, 20+len(one)), one[:cut]...)
			checkGet(t, b, 20, nil, 0, api.ErrShort)
		}
	}
	checkGet(t, memtest.Number(api.MaxBytes), 0, nil, 0, api.ErrShort)
	whole := framed(memtest.Mixed(api.MaxBytes))
	checkGet(t, whole[:len(whole)-1], 0, nil, 0, api.ErrShort)
	// Too few bytes are named ahead of a wrong checksum.
	checkGet(t, []byte{3, 1, 2, 3, 0, 0, 0}, 0, nil, 0, api.ErrShort)
	checkGet(t, []byte{3, 1, 2, 3, 0, 0, 0, 0}, 0, nil, 0, api.ErrSum)
}

func TestGetWrongSum(t *testing.T) {
	for _, n := range []int{0, 1, 3, 50} {
		one := framed(memtest.Mixed(n))
		for at := range one {
			for c := 1; c < 256; c++ {
				b := bytes.Clone(one)
				b[at] ^= byte(c)
				data, next, e := Get(b, 0)
				if e == api.OK || len(data) != 0 || next != 0 || at > 0 && e != api.ErrSum {
					t.Errorf("%x: %x, %d, %d", b, data, next, e)
				}
			}
		}
	}
	// The checksum of the data alone, and that with the most significant byte first.
	checkGet(t, append([]byte{3}, summed([]byte("abc"))...), 0, nil, 0, api.ErrSum)
	one := framed([]byte("abc"))
	checkGet(t, []byte{3, 'a', 'b', 'c', one[7], one[6], one[5], one[4]}, 0, nil, 0, api.ErrSum)
	// A shorter length would fit the bytes, were it not part of what the checksum is of.
	checkGet(t, append([]byte{2}, framed([]byte("abc"))[1:]...), 0, nil, 0, api.ErrSum)
}

func TestGetMakesNewMemory(t *testing.T) {
	for _, n := range []int{0, 1, 3, 200} {
		was := framed(memtest.Mixed(n))
		b := memtest.Roomy(was, 0xee)
		data, _, _ := Get(b, 0)
		memtest.Check(t, data, b, was, 0xee)
		if again, _, _ := Get(b, 0); memtest.Shared(data, again) {
			t.Error("two results of Get share memory")
		}
	}
	for _, was := range [][]byte{nil, {5}, {0x80, 0}, {1, 2, 3, 4, 5, 6}} {
		b := memtest.Roomy(was, 0xee)
		data, _, _ := Get(b, 0)
		memtest.Check(t, data, b, was, 0xee)
	}
}

// P3.3

func checkAll(t *testing.T, b []byte, want [][]byte, good int, e api.Errno) {
	t.Helper()
	l, gotGood, gotE := All(b)
	same := len(l) == len(want)
	for i := 0; same && i < len(l); i++ {
		same = bytes.Equal(l[i], want[i])
	}
	if !same || gotGood != good || gotE != e {
		t.Errorf("All(%d bytes) = %d frames, %d, %d; want %d frames, %d, %d", len(b), len(l), gotGood, gotE, len(want), good, e)
	}
}

// several are data of which some are empty, and some equal.
func several() [][]byte {
	return [][]byte{[]byte("abc"), nil, []byte("de"), memtest.Mixed(200), nil, nil, []byte("de"), {0}}
}

// joined returns the frames one after the other, and the indices after each of them.
func joined(l [][]byte) (b []byte, ends []int) {
	for _, data := range l {
		b = append(b, framed(data)...)
		ends = append(ends, len(b))
	}
	return b, ends
}

func TestAllOfWholeFrames(t *testing.T) {
	checkAll(t, nil, nil, 0, api.OK)
	checkAll(t, []byte{}, nil, 0, api.OK)
	l := several()
	for n := range len(l) + 1 {
		b, _ := joined(l[:n])
		checkAll(t, b, l[:n], len(b), api.OK)
	}
	long := [][]byte{memtest.Mixed(api.MaxBytes), {1}, memtest.Mixed(api.MaxBytes)}
	b, _ := joined(long)
	checkAll(t, b, long, len(b), api.OK)
	many := make([][]byte, 5000)
	b, _ = joined(many)
	checkAll(t, b, many, len(b), api.OK)
}

func TestAllStopsAtTheFirstError(t *testing.T) {
	ahead, behind := several()[:3], framed([]byte("behind"))
	b, _ := joined(ahead)
	wrong := framed([]byte("wrong"))
	wrong[3] ^= 1
	for _, x := range []struct {
		bad []byte
		e   api.Errno
	}{
		{[]byte{1}, api.ErrShort},
		{[]byte{0x80}, api.ErrShort},
		{[]byte{100}, api.ErrShort},
		{[]byte{0x80, 0}, api.ErrForm},
		{memtest.Number(api.MaxBytes + 1), api.ErrLong},
		{wrong, api.ErrSum},
	} {
		checkAll(t, x.bad, nil, 0, x.e)
		checkAll(t, append(bytes.Clone(b), x.bad...), ahead, len(b), x.e)
		if x.e != api.ErrShort {
			checkAll(t, append(append(bytes.Clone(b), x.bad...), behind...), ahead, len(b), x.e)
		}
	}
	one := framed([]byte{9})
	checkAll(t, append(one, 1), [][]byte{{9}}, 6, api.ErrShort)
}

func TestAllMakesNewMemory(t *testing.T) {
	for _, tail := range [][]byte{nil, {1}, {0x80, 0}} {
		was, _ := joined(several())
		was = append(was, tail...)
		b := memtest.Roomy(was, 0xee)
		l, _, _ := All(b)
		again, _, _ := All(b)
		if memtest.Shared(l, again) {
			t.Error("two results of All share memory")
		}
		for i, data := range l {
			memtest.Check(t, data, b, was, 0xee)
			for _, other := range append(l[:i:i], again...) {
				if memtest.Shared(data, other) {
					t.Errorf("the data of frame %d shares memory with other data", i)
				}
			}
		}
	}
}

// P3.4

func TestAllOfEveryCut(t *testing.T) {
	l := several()
	b, ends := joined(l)
	for cut := range len(b) + 1 {
		want, good := 0, 0
		for i, end := range ends {
			if end <= cut {
				want, good = i+1, end
			}
		}
		e := api.ErrShort
		if cut == good {
			e = api.OK
		}
		checkAll(t, b[:cut], l[:want], good, e)
	}
}

func TestPutIsRead(t *testing.T) {
	var b []byte
	var l [][]byte
	for _, n := range lengths {
		data := memtest.Mixed(n)
		at := len(b)
		b, _ = Put(b, data)
		l = append(l, data)
		if len(b) != at+Size(n) {
			t.Errorf("a frame with %d bytes of data has %d bytes", n, len(b)-at)
		}
		checkGet(t, b, at, data, len(b), api.OK)
	}
	checkAll(t, b, l, len(b), api.OK)
}

func FuzzAll(f *testing.F) {
	b, _ := joined(several())
	f.Add(b)
	f.Add([]byte{1})
	f.Add([]byte{0x80, 0, 0, 0, 0, 0})
	f.Fuzz(func(t *testing.T, b []byte) {
		l, good, e := All(b)
		var again []byte
		for _, data := range l {
			again, _ = Put(again, data)
		}
		if !bytes.Equal(again, b[:good]) || (e == api.OK) != (good == len(b)) {
			t.Errorf("All(%x) = %x, %d, %d", b, l, good, e)
		}
		if data, next, bad := Get(b, good); good < len(b) && (bad != e || len(data) != 0 || next != 0) {
			t.Errorf("Get(%x, %d) = %x, %d, %d", b, good, data, next, bad)
		}
	})
}
