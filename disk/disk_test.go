package disk

import (
	"bytes"
	"fmt"
	"math"
	"slices"
	"sort"
	"strings"
	"testing"
	"unsafe"

	"gristmill/api"
	"gristmill/internal/memtest"
)

// longest is a name of as many bytes as a name may have.
var longest = strings.Repeat("n", api.MaxName)

// wrong are the names that may not be.
func wrong() []string {
	return []string{"", longest + "n", strings.Repeat("é", api.MaxName/2+1), strings.Repeat("x", 1<<16)}
}

// right are names at the edges, and names of bytes of all kinds.
func right() []string {
	return []string{"a", "\x00", "\xff", " ", "a/b", "..", "é€😀", longest, strings.Repeat("é", api.MaxName/2), strings.Repeat("\xff", api.MaxName)}
}

// fresh is a new disk.
func fresh(t testing.TB, room int) *Disk {
	t.Helper()
	d, e := New(room)
	if e != api.OK || d == nil {
		t.Fatalf("New(%d) = %v, %d", room, d, e)
	}
	return d
}

// must reports a call that did not return the error that it must.
func must(t testing.TB, what string, e, want api.Errno) {
	t.Helper()
	if e != want {
		t.Errorf("%s returned %d, want %d", what, e, want)
	}
}

// look is all that the calls tell of the files of a disk.
func look(d *Disk) string {
	var s strings.Builder
	for _, name := range d.List() {
		b, e := d.Read(name)
		synced, all, ok := d.State(name)
		fmt.Fprintf(&s, "%q=%q %d %d/%d %t; ", name, b, e, synced, all, ok)
	}
	fmt.Fprintf(&s, "room %d", d.Room())
	return s.String()
}

// has reports a disk whose files are not those wanted, written as "name:synced|rest", in order.
func has(t testing.TB, d *Disk, want ...string) {
	t.Helper()
	var l []string
	for _, name := range d.List() {
		b, e := d.Read(name)
		synced, all, ok := d.State(name)
		if e != api.OK || !ok || all != len(b) || synced < 0 || synced > all {
			t.Fatalf("file %q: Read %q, %d, State %d, %d, %t", name, b, e, synced, all, ok)
		}
		l = append(l, name+":"+string(b[:synced])+"|"+string(b[synced:]))
	}
	if !slices.Equal(l, want) {
		t.Errorf("the files are %q, want %q", l, want)
	}
}

// build is a disk with files written as "name:synced|rest"; one without synced bytes was never synced.
func build(t testing.TB, room int, files ...string) *Disk {
	t.Helper()
	d := fresh(t, room)
	for _, f := range files {
		name, data, _ := strings.Cut(f, ":")
		synced, rest, _ := strings.Cut(data, "|")
		must(t, "Append", d.Append(name, []byte(synced)), api.OK)
		if synced != "" {
			must(t, "Sync", d.Sync(name), api.OK)
		}
		must(t, "Append", d.Append(name, []byte(rest)), api.OK)
	}
	return d
}

// change is a call that changes files, by its name and with one name (Rename takes it as both).
type change struct {
	what string
	call func(d *Disk, name string) api.Errno
}

// changes are the calls that count when a disk is armed.
func changes() []change {
	return []change{
		{"Append", func(d *Disk, name string) api.Errno { return d.Append(name, []byte("x")) }},
		{"Append of nothing", func(d *Disk, name string) api.Errno { return d.Append(name, nil) }},
		{"Append of too much", func(d *Disk, name string) api.Errno { return d.Append(name, make([]byte, api.MaxBytes+1)) }},
		{"Sync", func(d *Disk, name string) api.Errno { return d.Sync(name) }},
		{"Rename", func(d *Disk, name string) api.Errno { return d.Rename(name, "to") }},
		{"Rename to", func(d *Disk, name string) api.Errno { return d.Rename("from", name) }},
		{"Rename to itself", func(d *Disk, name string) api.Errno { return d.Rename(name, name) }},
		{"Remove", func(d *Disk, name string) api.Errno { return d.Remove(name) }},
		{"Cut", func(d *Disk, name string) api.Errno { return d.Cut(name, 0) }},
		{"Cut below 0", func(d *Disk, name string) api.Errno { return d.Cut(name, -1) }},
		{"Cut beyond the end", func(d *Disk, name string) api.Errno { return d.Cut(name, math.MaxInt) }},
	}
}

// P6.1

func TestNew(t *testing.T) {
	for _, room := range []int{1, 2, 20, 4096, api.MaxBytes - 1, api.MaxBytes} {
		d := fresh(t, room)
		if l := d.List(); len(l) != 0 || d.Room() != room || d.Dead() {
			t.Errorf("a new disk of %d bytes has the files %q, room %d, dead %t", room, l, d.Room(), d.Dead())
		}
		must(t, "Append of more", d.Append("a", make([]byte, room+1)), api.ErrFull)
		must(t, "Append of all", d.Append("a", make([]byte, room)), api.OK)
	}
	for _, room := range []int{0, -1, -api.MaxBytes, math.MinInt, api.MaxBytes + 1, 1 << 31, math.MaxInt} {
		if d, e := New(room); d != nil || e != api.ErrArg {
			t.Errorf("New(%d) = %v, %d", room, d, e)
		}
	}
}

func TestNewIsPure(t *testing.T) {
	a, b := fresh(t, 10), fresh(t, 10)
	must(t, "Append", a.Append("a", []byte("123")), api.OK)
	a.Arm(0)
	must(t, "Append", a.Append("a", []byte("123")), api.ErrDead)
	if has(t, b); b.Room() != 10 || b.Dead() {
		t.Error("a call on one disk changed another")
	}
	must(t, "Append", b.Append("a", []byte("123")), api.OK)
}

func TestNilDisk(t *testing.T) {
	var d *Disk
	for _, name := range append(right(), wrong()...) {
		for _, c := range changes() {
			must(t, c.what, c.call(d, name), api.ErrNil)
		}
		if b, e := d.Read(name); len(b) != 0 || e != api.ErrNil {
			t.Errorf("Read(%q) = %q, %d", name, b, e)
		}
		if synced, all, ok := d.State(name); synced != 0 || all != 0 || ok {
			t.Errorf("State(%q) = %d, %d, %t", name, synced, all, ok)
		}
	}
	must(t, "Rename", d.Rename("", ""), api.ErrNil)
	for _, n := range []int{0, 1, -1} {
		d.Arm(n)
		d.Crash([]int{n, n})
	}
	d.Crash(nil)
	if l := d.List(); len(l) != 0 || d.Room() != 0 || d.Dead() || d.Clone() != nil {
		t.Errorf("a nil disk tells %q, %d, %t, %v", l, d.Room(), d.Dead(), d.Clone())
	}
}

func TestWrongNames(t *testing.T) {
	for _, name := range wrong() {
		for _, armed := range []int{-1, 0, 1} {
			d := build(t, 20, "from:ab|c", "to:12|")
			was := look(d)
			d.Arm(armed)
			for _, c := range changes() {
				must(t, c.what, c.call(d, name), api.ErrArg)
			}
			must(t, "Rename of none", d.Rename("none", name), api.ErrArg)
			if b, e := d.Read(name); len(b) != 0 || e != api.ErrArg {
				t.Errorf("Read(%q) = %q, %d", name, b, e)
			}
			if synced, all, ok := d.State(name); synced != 0 || all != 0 || ok {
				t.Errorf("State(%q) = %d, %d, %t", name, synced, all, ok)
			}
			if look(d) != was || d.Dead() {
				t.Errorf("a call with the name %q changed the disk to %s, dead %t", name, look(d), d.Dead())
			}
		}
	}
}

func TestRightNames(t *testing.T) {
	for _, name := range right() {
		d := fresh(t, 20)
		must(t, "Append", d.Append(name, []byte("abc")), api.OK)
		must(t, "Cut", d.Cut(name, 2), api.OK)
		must(t, "Sync", d.Sync(name), api.OK)
		has(t, d, name+":ab|")
		must(t, "Rename", d.Rename(name, "other"), api.OK)
		must(t, "Rename", d.Rename("other", name), api.OK)
		d.Crash(nil)
		has(t, d, name+":ab|")
		must(t, "Remove", d.Remove(name), api.OK)
		has(t, d)
	}
}

func TestAppend(t *testing.T) {
	d := fresh(t, 10)
	must(t, "Append", d.Append("b", []byte("hel")), api.OK)
	has(t, d, "b:|hel")
	must(t, "Append", d.Append("b", []byte("lo")), api.OK)
	has(t, d, "b:|hello")
	must(t, "Sync", d.Sync("b"), api.OK)
	must(t, "Append", d.Append("b", []byte("x")), api.OK)
	must(t, "Append", d.Append("a", nil), api.OK)
	must(t, "Append", d.Append("c", []byte{}), api.OK)
	must(t, "Append", d.Append("b", nil), api.OK)
	has(t, d, "a:|", "b:hello|x", "c:|")
	if d.Room() != 4 {
		t.Error(d.Room())
	}
}

func TestAppendToFullDisk(t *testing.T) {
	d := build(t, 10, "a:123|4", "b:|567")
	for _, n := range []int{4, 5, 10, 11, api.MaxBytes, api.MaxBytes + 1} {
		for _, name := range []string{"a", "b", "new"} {
			must(t, "Append", d.Append(name, make([]byte, n)), api.ErrFull)
		}
	}
	has(t, d, "a:123|4", "b:|567")
	must(t, "Append", d.Append("c", []byte("890")), api.OK)
	must(t, "Append", d.Append("a", nil), api.OK)
	must(t, "Append", d.Append("d", nil), api.OK)
	must(t, "Append", d.Append("a", []byte("x")), api.ErrFull)
	must(t, "Append", d.Append("e", []byte("x")), api.ErrFull)
	if has(t, d, "a:123|4", "b:|567", "c:|890", "d:|"); d.Room() != 0 {
		t.Error(d.Room())
	}
}

// many is a disk with as many files as there may be, of which the first has a byte.
func many(t testing.TB) *Disk {
	d := fresh(t, 8)
	for i := range api.MaxFiles {
		must(t, "Append", d.Append(fmt.Sprintf("%05x", i), nil), api.OK)
	}
	must(t, "Append", d.Append("00000", []byte("x")), api.OK)
	return d
}

func TestAppendToMany(t *testing.T) {
	d := many(t)
	refused := func() {
		t.Helper()
		must(t, "Append", d.Append("new", nil), api.ErrMany)
		must(t, "Append", d.Append("new", make([]byte, 7)), api.ErrMany)
		must(t, "Append of too much", d.Append("new", make([]byte, 8)), api.ErrFull)
		if _, _, ok := d.State("new"); ok || len(d.List()) != api.MaxFiles || d.Room() != 7 {
			t.Error("a refused Append changed the disk")
		}
	}
	refused()
	must(t, "Append to a file", d.Append("0ffff", nil), api.OK)
	must(t, "Rename", d.Rename("00001", "0000x"), api.OK)
	refused()
	must(t, "Rename", d.Rename("00002", "0000x"), api.OK)
	must(t, "Append", d.Append("in place", nil), api.OK)
	refused()
	must(t, "Remove", d.Remove("in place"), api.OK)
	must(t, "Append", d.Append("in place", nil), api.OK)
	refused()
	d.Crash([]int{1})
	must(t, "Append", d.Append("new", make([]byte, 7)), api.OK)
	has(t, d, "00000:x|", "new:|\x00\x00\x00\x00\x00\x00\x00")
}

func TestSync(t *testing.T) {
	d := build(t, 20, "a:12|34", "b:|5", "c:|")
	must(t, "Sync", d.Sync("a"), api.OK)
	has(t, d, "a:1234|", "b:|5", "c:|")
	must(t, "Sync", d.Sync("a"), api.OK)
	must(t, "Sync", d.Sync("c"), api.OK)
	must(t, "Sync of none", d.Sync("d"), api.ErrNone)
	if has(t, d, "a:1234|", "b:|5", "c:|"); d.Room() != 15 {
		t.Error(d.Room())
	}
	d.Crash(nil)
	has(t, d, "a:1234|", "c:|")
}

func TestRename(t *testing.T) {
	d := build(t, 20, "a:12|34", "b:567|8", "c:|9")
	must(t, "Rename", d.Rename("a", "x"), api.OK)
	if has(t, d, "b:567|8", "c:|9", "x:12|34"); d.Room() != 11 {
		t.Error(d.Room())
	}
	must(t, "Rename", d.Rename("a", "x"), api.ErrNone)
	must(t, "Rename", d.Rename("a", "a"), api.ErrNone)
	must(t, "Rename", d.Rename("a", "y"), api.ErrNone)
	must(t, "Rename onto a file", d.Rename("c", "b"), api.OK)
	if has(t, d, "b:|9", "x:12|34"); d.Room() != 15 {
		t.Error(d.Room())
	}
	must(t, "Rename to itself", d.Rename("x", "x"), api.OK)
	if has(t, d, "b:|9", "x:12|34"); d.Room() != 15 {
		t.Error(d.Room())
	}
	must(t, "Append", d.Append("x", []byte("5")), api.OK)
	must(t, "Append", d.Append("c", []byte("new")), api.OK)
	has(t, d, "b:|9", "c:|new", "x:12|345")
	d.Crash(nil)
	has(t, d, "x:12|")
}

func TestRemove(t *testing.T) {
	d := build(t, 10, "a:12|34", "b:567|8", "c:|")
	must(t, "Remove", d.Remove("a"), api.OK)
	if has(t, d, "b:567|8", "c:|"); d.Room() != 6 {
		t.Error(d.Room())
	}
	must(t, "Remove of none", d.Remove("a"), api.ErrNone)
	must(t, "Remove", d.Remove("c"), api.OK)
	must(t, "Append", d.Append("a", []byte("9")), api.OK)
	if has(t, d, "a:|9", "b:567|8"); d.Room() != 5 {
		t.Error(d.Room())
	}
	d.Crash(nil)
	has(t, d, "b:567|")
}

func TestCut(t *testing.T) {
	for n, want := range []string{"a:|", "a:1|", "a:12|", "a:123|", "a:123|4", "a:123|45"} {
		d := build(t, 10, "a:123|45", "b:|6")
		must(t, "Cut", d.Cut("a", n), api.OK)
		if has(t, d, want, "b:|6"); d.Room() != 9-n {
			t.Errorf("after Cut(%d) there is room for %d", n, d.Room())
		}
		for _, wrong := range []int{-1, math.MinInt, n + 1, 10, math.MaxInt} {
			must(t, "Cut", d.Cut("a", wrong), api.ErrArg)
			must(t, "Cut of none", d.Cut("c", wrong), api.ErrNone)
		}
		must(t, "Cut of none", d.Cut("c", 0), api.ErrNone)
		has(t, d, want, "b:|6")
		must(t, "Append", d.Append("a", []byte("xy")), api.OK)
		has(t, d, want+"xy", "b:|6")
	}
}

func TestCutOfEmpty(t *testing.T) {
	d := build(t, 10, "a:|")
	must(t, "Cut", d.Cut("a", 0), api.OK)
	must(t, "Cut", d.Cut("a", 1), api.ErrArg)
	must(t, "Cut", d.Cut("a", -1), api.ErrArg)
	has(t, d, "a:|")
}

func TestArm(t *testing.T) {
	for n := range 5 {
		d := fresh(t, 10)
		d.Arm(n)
		for i := range 8 {
			want := api.OK
			if i >= n {
				want = api.ErrDead
			}
			if d.Dead() != (i > n) {
				t.Errorf("armed for %d: dead %t after %d calls", n, d.Dead(), i)
			}
			must(t, "Append", d.Append("a", []byte("x")), want)
		}
		if _, all, _ := d.State("a"); all != n || !d.Dead() || d.Room() != 10-n {
			t.Errorf("armed for %d: %d bytes, dead %t, room %d", n, all, d.Dead(), d.Room())
		}
	}
}

func TestArmForMany(t *testing.T) {
	for _, n := range []int{-1, -2, math.MinInt, 200, math.MaxInt} {
		d := fresh(t, 200)
		d.Arm(n)
		for range 200 {
			must(t, "Append", d.Append("a", []byte("x")), api.OK)
		}
		if d.Dead() {
			t.Errorf("armed for %d: dead", n)
		}
	}
}

func TestArmedCallsCountWhateverTheyReturn(t *testing.T) {
	for _, c := range changes() {
		for _, name := range []string{"a", "none"} {
			d, other := build(t, 20, "a:12|3", "b:|45"), build(t, 20, "a:12|3", "b:|45")
			d.Arm(1)
			must(t, c.what, c.call(d, name), c.call(other, name))
			if look(d) != look(other) || d.Dead() {
				t.Errorf("%s on an armed disk leaves %s, not %s, dead %t", c.what, look(d), look(other), d.Dead())
			}
			for _, late := range changes() {
				must(t, late.what, late.call(d, name), api.ErrDead)
			}
			if look(d) != look(other) || !d.Dead() {
				t.Errorf("a dead disk has %s, not %s, dead %t", look(d), look(other), d.Dead())
			}
		}
	}
}

func TestArmedCallsThatDoNotCount(t *testing.T) {
	d := build(t, 20, "a:12|3")
	d.Arm(1)
	for range 5 {
		for _, name := range append(wrong(), "a", "none") {
			d.Read(name)
			d.State(name)
		}
		for _, name := range wrong() {
			must(t, "Append", d.Append(name, []byte("x")), api.ErrArg)
			must(t, "Rename", d.Rename("a", name), api.ErrArg)
		}
		d.List()
		d.Room()
		d.Dead()
		d.Clone()
	}
	must(t, "Append", d.Append("a", []byte("4")), api.OK)
	must(t, "Append", d.Append("a", []byte("5")), api.ErrDead)
	has(t, d, "a:12|34")
}

func TestArmEndsWithCrash(t *testing.T) {
	for _, tries := range []int{0, 1, 2, 3, 4} {
		d := build(t, 20, "a:12|3")
		d.Arm(2)
		for range tries {
			d.Append("a", nil)
		}
		if d.Dead() != (tries > 2) {
			t.Errorf("dead %t after %d calls", d.Dead(), tries)
		}
		d.Crash([]int{1})
		if has(t, d, "a:123|"); d.Dead() {
			t.Error("dead after a crash")
		}
		for range 5 {
			must(t, "Append", d.Append("a", []byte("x")), api.OK)
		}
		if d.Dead() {
			t.Error("dead after a crash and calls")
		}
	}
}

func TestArmEndsWithArm(t *testing.T) {
	d := build(t, 20, "a:12|3")
	d.Arm(0)
	must(t, "Remove", d.Remove("a"), api.ErrDead)
	d.Arm(1)
	if d.Dead() {
		t.Error("dead right after Arm")
	}
	must(t, "Sync", d.Sync("a"), api.OK)
	must(t, "Sync", d.Sync("a"), api.ErrDead)
	d.Arm(-1)
	if d.Dead() {
		t.Error("dead when not armed")
	}
	for range 5 {
		must(t, "Append", d.Append("a", []byte("4")), api.OK)
	}
	d.Arm(3)
	d.Arm(5)
	for range 5 {
		must(t, "Sync", d.Sync("a"), api.OK)
	}
	must(t, "Sync", d.Sync("a"), api.ErrDead)
	d.Arm(5)
	d.Arm(0)
	must(t, "Sync", d.Sync("a"), api.ErrDead)
	has(t, d, "a:12344444|")
}

// P6.2

func TestRead(t *testing.T) {
	data := memtest.Mixed(api.MaxBytes)
	d := fresh(t, api.MaxBytes)
	must(t, "Append", d.Append("all", data), api.OK)
	must(t, "Append", d.Append("empty", nil), api.OK)
	d.Arm(0)
	must(t, "Sync", d.Sync("all"), api.ErrDead)
	if b, e := d.Read("all"); !bytes.Equal(b, data) || e != api.OK {
		t.Errorf("Read of all bytes: %d of them, %d", len(b), e)
	}
	if b, e := d.Read("empty"); len(b) != 0 || e != api.OK {
		t.Errorf("Read of an empty file: %q, %d", b, e)
	}
	for _, name := range []string{"none", "al", "all\x00", "ALL", longest} {
		if b, e := d.Read(name); len(b) != 0 || e != api.ErrNone {
			t.Errorf("Read(%q) = %q, %d", name, b, e)
		}
	}
}

func TestList(t *testing.T) {
	names := []string{"b", "a", "B", "aa", "ab", "a\x00", "a\xff", "\xff", "\x00", "10", "9", "é", "z", longest}
	d := fresh(t, 100)
	for i, name := range names {
		must(t, "Append", d.Append(name, make([]byte, i%3)), api.OK)
	}
	want := slices.Clone(names)
	sort.Slice(want, func(i, j int) bool { return bytes.Compare([]byte(want[i]), []byte(want[j])) < 0 })
	for range 20 {
		if l := d.List(); !slices.Equal(l, want) {
			t.Fatalf("List() = %q, want %q", l, want)
		}
	}
	if len(fresh(t, 1).List()) != 0 {
		t.Error("an empty disk has files")
	}
}

func TestState(t *testing.T) {
	d := build(t, 20, "a:12|345", "b:|6", "c:|", "d:789|")
	for name, want := range map[string][2]int{"a": {2, 5}, "b": {0, 1}, "c": {0, 0}, "d": {3, 3}} {
		if synced, all, ok := d.State(name); synced != want[0] || all != want[1] || !ok {
			t.Errorf("State(%q) = %d, %d, %t", name, synced, all, ok)
		}
	}
	for _, name := range append(wrong(), "none", "aa", longest) {
		if synced, all, ok := d.State(name); synced != 0 || all != 0 || ok {
			t.Errorf("State(%q) = %d, %d, %t", name, synced, all, ok)
		}
	}
}

func TestRoom(t *testing.T) {
	d := fresh(t, 10)
	room := func(want int) {
		t.Helper()
		if d.Room() != want {
			t.Errorf("room for %d, want %d", d.Room(), want)
		}
		c := d.Clone()
		if c.Append("more", make([]byte, want+1)) != api.ErrFull || c.Append("more", make([]byte, want)) != api.OK {
			t.Errorf("the files may not grow by %d", want)
		}
	}
	room(10)
	d.Append("a", []byte("1234"))
	room(6)
	d.Append("b", []byte("567"))
	room(3)
	d.Append("b", []byte("8901"))
	room(3)
	d.Sync("b")
	room(3)
	d.Cut("a", 3)
	room(4)
	d.Rename("b", "c")
	room(4)
	d.Rename("a", "c")
	room(7)
	d.Append("d", []byte("xy"))
	room(5)
	d.Crash([]int{2, 1})
	room(7)
	d.Remove("c")
	room(9)
	d.Crash(nil)
	room(9)
	d.Remove("d")
	room(10)
}

// P6.3

func TestExample(t *testing.T) {
	d := fresh(t, 100)
	must(t, "Append", d.Append("a", []byte("hello")), api.OK)
	must(t, "Sync", d.Sync("a"), api.OK)
	must(t, "Append", d.Append("a", []byte("xyz")), api.OK)
	d.Crash([]int{2})
	has(t, d, "a:helloxy|")
}

func TestCrashKeeps(t *testing.T) {
	for keep, want := range map[int]string{
		math.MinInt: "12", -1: "12", 0: "12", 1: "123", 2: "1234", 3: "12345", 4: "12345", api.MaxBytes: "12345", math.MaxInt: "12345",
	} {
		d := build(t, 10, "a:12|345")
		d.Crash([]int{keep})
		if has(t, d, "a:"+want+"|"); d.Room() != 10-len(want) {
			t.Errorf("after Crash([%d]) there is room for %d", keep, d.Room())
		}
		must(t, "Append", d.Append("a", []byte("xyz")), api.OK)
		d.Crash([]int{1})
		has(t, d, "a:"+want+"x|")
	}
}

func TestCrashTakesFilesInOrder(t *testing.T) {
	files := []string{"c:|567", "a:|123", "b:4|xyz"}
	for want, keep := range map[string][]int{
		"b:4|":                  nil,
		"a:1| b:4|":             {1},
		"b:4x|":                 {0, 1},
		"b:4| c:5|":             {0, 0, 1},
		"a:12| b:4x| c:567|":    {2, 1, 3},
		"a:123| b:4xyz| c:567|": {9, 9, 9, 9, 9},
		"b:4xy| c:5|":           {-1, 2, 1, 7},
	} {
		d := build(t, 20, files...)
		d.Crash(keep)
		has(t, d, strings.Fields(want)...)
	}
	// A file that is about to be removed has its place in the order too.
	d := build(t, 20, "a:|", "b:|12", "c:|", "d:3|45")
	d.Crash([]int{5, 1, 5, 1})
	has(t, d, "b:1|", "d:34|")
}

// steps makes calls that are written as a text: cut keeps as many bytes as its second argument has, crash keeps nothing, crash1 a byte of each file.
func steps(t *testing.T, d *Disk, calls string) {
	t.Helper()
	for _, call := range strings.Fields(calls) {
		what, args, _ := strings.Cut(call, "(")
		args = strings.TrimSuffix(args, ")")
		name, more, _ := strings.Cut(args, ",")
		switch what {
		case "append":
			must(t, call, d.Append(name, []byte(more)), api.OK)
		case "sync":
			must(t, call, d.Sync(name), api.OK)
		case "rename":
			must(t, call, d.Rename(name, more), api.OK)
		case "remove":
			must(t, call, d.Remove(name), api.OK)
		case "cut":
			must(t, call, d.Cut(name, len(more)), api.OK)
		case "crash":
			d.Crash(nil)
		case "crash1":
			d.Crash([]int{1, 1, 1, 1})
		default:
			t.Fatal(call)
		}
	}
}

func TestCrashRemovesEmptyFiles(t *testing.T) {
	for calls, want := range map[string]string{
		"append(a) crash":                                                  "",
		"append(a) crash1":                                                 "",
		"append(a,12) crash":                                               "",
		"append(a,12) cut(a) crash1":                                       "",
		"append(a,12) crash1":                                              "a:1|",
		"append(a) sync(a) crash":                                          "a:|",
		"append(a) sync(a) crash crash crash":                              "a:|",
		"append(a) sync(a) append(a,1) crash":                              "a:|",
		"append(a,1) sync(a) cut(a) crash":                                 "a:|",
		"append(a,1) sync(a) cut(a) append(a,2) crash":                     "a:|",
		"append(a,1) crash1 cut(a) crash":                                  "a:|",
		"append(a,1) crash1 cut(a) append(a,2) crash":                      "a:|",
		"append(a,1) crash append(a) crash":                                "",
		"append(a) sync(a) remove(a) append(a) crash":                      "",
		"append(a,1) sync(a) remove(a) append(a,2) crash":                  "",
		"append(a,1) crash1 remove(a) append(a) crash":                     "",
		"append(a) sync(a) rename(a,b) crash":                              "b:|",
		"append(a) sync(a) rename(a,b) append(a) crash":                    "b:|",
		"append(a) sync(a) rename(a,b) rename(b,a) crash":                  "a:|",
		"append(a) sync(a) rename(a,a) crash":                              "a:|",
		"append(a) rename(a,b) crash":                                      "",
		"append(a) rename(a,a) crash":                                      "",
		"append(a) rename(a,b) sync(b) append(a) crash":                    "b:|",
		"append(b,1) sync(b) append(a) rename(a,b) crash":                  "",
		"append(b) append(a) sync(a) rename(a,b) crash":                    "b:|",
		"append(b) append(a,1) sync(a) cut(a) rename(a,b) crash":           "b:|",
		"append(b,1) crash1 cut(b) append(a) rename(a,b) crash":            "",
		"append(b) append(a,1) crash1 cut(a) rename(a,b) crash":            "b:|",
		"append(a) sync(a) append(b) crash append(b) crash":                "a:|",
		"append(a,1) sync(a) append(b,2) sync(b) cut(a) rename(a,b) crash": "b:|",
		"append(a) sync(a) append(b) sync(b) rename(a,b) remove(b) crash":  "",
		"append(a,1) sync(a) append(a,2) cut(a,x) append(a,3) crash":       "a:1|",
		"append(a,123) sync(a) cut(a,x) append(a,45) crash1":               "a:14|",
	} {
		d := fresh(t, 10)
		steps(t, d, calls)
		if room := 10 - strings.Count(want, "1") - strings.Count(want, "4"); d.Room() != room {
			t.Errorf("%s: room for %d, want %d", calls, d.Room(), room)
		}
		has(t, d, strings.Fields(want)...)
	}
}

func TestClone(t *testing.T) {
	d := build(t, 20, "a:12|3", "b:|4", "c:|")
	must(t, "Sync", d.Sync("c"), api.OK)
	c := d.Clone()
	was := look(d)
	if c == d || look(c) != was || c.Dead() {
		t.Errorf("the clone has %s, not %s", look(c), was)
	}
	steps(t, c, "append(a,x) sync(b) rename(b,new) remove(c) cut(a,1) append(d,56)")
	if look(d) != was {
		t.Errorf("calls on the clone changed the disk to %s", look(d))
	}
	has(t, c, "a:1|", "d:|56", "new:4|")
	d.Crash(nil)
	has(t, c, "a:1|", "d:|56", "new:4|")
	has(t, d, "a:12|", "c:|")
	steps(t, d, "append(a,yz) append(new,z)")
	has(t, c, "a:1|", "d:|56", "new:4|")
	c.Crash(nil)
	has(t, c, "a:1|", "new:4|")
	has(t, d, "a:12|yz", "c:|", "new:|z")
}

func TestCloneSharesNoSpareRoom(t *testing.T) {
	d := build(t, 100, "a:|12345")
	steps(t, d, "append(a,6) cut(a,xxx)")
	c := d.Clone()
	steps(t, d, "append(a,d)")
	steps(t, c, "append(a,c)")
	has(t, d, "a:|123d")
	has(t, c, "a:|123c")
}

func TestCloneKeepsTheStateOfArm(t *testing.T) {
	d := build(t, 20, "a:12|3")
	d.Arm(2)
	must(t, "Append", d.Append("a", nil), api.OK)
	c := d.Clone()
	must(t, "Append", d.Append("a", nil), api.OK)
	must(t, "Append", d.Append("a", nil), api.ErrDead)
	dead := d.Clone()
	if !d.Dead() || !dead.Dead() || c.Dead() {
		t.Errorf("dead: the disk %t, its clone %t, an earlier one %t", d.Dead(), dead.Dead(), c.Dead())
	}
	must(t, "Append", c.Append("a", nil), api.OK)
	must(t, "Append", c.Append("a", nil), api.ErrDead)
	must(t, "Append", dead.Append("a", nil), api.ErrDead)
	dead.Arm(-1)
	must(t, "Append", dead.Append("a", nil), api.OK)
	must(t, "Append", d.Append("a", nil), api.ErrDead)
	if dead.Dead() || !d.Dead() {
		t.Error("Arm on a clone reached the disk")
	}
	d.Crash(nil)
	must(t, "Append", c.Append("a", nil), api.ErrDead)
}

// P6.4

func TestSyncedBytesSurvive(t *testing.T) {
	data := memtest.Mixed(3000)
	d := fresh(t, len(data))
	var given []byte // what was appended and not lost
	synced := 0
	for i, at := 0, 0; i+3 < len(data); i += 3 {
		n := min(int(data[i])%7, len(data)-at, d.Room())
		must(t, "Append", d.Append("a", data[at:at+n]), api.OK)
		given = append(given, data[at:at+n]...)
		at += n
		switch data[i+1] % 3 {
		case 0:
			must(t, "Sync", d.Sync("a"), api.OK)
			synced = len(given)
		case 1:
			d.Crash([]int{int(data[i+2])%9 - 1})
			b, _ := d.Read("a")
			if len(b) < synced || !bytes.HasPrefix(given, b) {
				t.Fatalf("after a crash there are %d bytes, of %d with %d synced", len(b), len(given), synced)
			}
			given, synced = b, len(b)
		}
	}
}

func TestRenameIsAtomic(t *testing.T) {
	for calls := range 5 {
		for _, keep := range [][]int{nil, {1, 1}, {9, 9}} {
			d := build(t, 20, "to:old|")
			d.Arm(calls)
			d.Append("from", []byte("new"))
			d.Sync("from")
			d.Append("from", []byte("er"))
			d.Rename("from", "to")
			d.Crash(keep)
			l := d.List()
			b, e := d.Read("to")
			switch {
			case e != api.OK:
				t.Errorf("after %d calls and Crash(%d) there is no file", calls, keep)
			case calls < 4 && string(b) != "old":
				t.Errorf("after %d calls and Crash(%d) the file has %q", calls, keep, b)
			case calls == 4 && (!strings.HasPrefix("newer", string(b)) || len(b) < 3 || len(l) != 1):
				t.Errorf("after %d calls and Crash(%d) the files are %q, with %q", calls, keep, l, b)
			}
			if from, e := d.Read("from"); e == api.OK && !strings.HasPrefix("newer", string(from)) || calls > 1 && calls < 4 && len(from) < 3 {
				t.Errorf("after %d calls and Crash(%d) the new file has %q", calls, keep, from)
			}
		}
	}
}

// The general rules.

func TestMemoryOfAppend(t *testing.T) {
	d := fresh(t, 1000)
	items := []byte("hello")
	for range 20 {
		b := memtest.Roomy(items, 0xee)
		must(t, "Append", d.Append("a", b), api.OK)
		must(t, "Append", d.Append("b", b), api.OK)
		read, _ := d.Read("a")
		memtest.Check(t, read, b, items, 0xee)
		for i := range b {
			b[i] = 'x'
		}
	}
	want := strings.Repeat("hello", 20)
	has(t, d, "a:|"+want, "b:|"+want)
}

func TestMemoryOfRead(t *testing.T) {
	d := build(t, 1000, "a:hello|abc", "b:|")
	must(t, "Cut", d.Cut("a", 6), api.OK)
	was := look(d)
	for _, name := range []string{"a", "b"} {
		b, _ := d.Read(name)
		c, _ := d.Read(name)
		if memtest.Shared(b, c) {
			t.Error("two results share memory")
		}
		for i := range b[:cap(b)] {
			b[:cap(b)][i] = 'x'
		}
		if look(d) != was {
			t.Errorf("a write to a result changed the disk to %s", look(d))
		}
		steps(t, d, "append(a,1) cut(a,xxxxxx)")
	}
	l, m := d.List(), d.List()
	if memtest.Shared(l, m) {
		t.Error("two lists share memory")
	}
	l[0] = "x"
	if look(d) != was {
		t.Errorf("a write to a list changed the disk to %s", look(d))
	}
}

func TestMemoryOfNames(t *testing.T) {
	text := strings.Repeat("name", 100)
	made, moved := text[100:104], text[200:204]
	d := fresh(t, 10)
	kept := func(name string) bool {
		return unsafe.StringData(d.List()[0]) == unsafe.StringData(name)
	}
	if must(t, "Append", d.Append(made, nil), api.OK); kept(made) {
		t.Error("Append keeps the text of which the name is a piece")
	}
	must(t, "Rename", d.Rename(made, "other"), api.OK)
	if must(t, "Rename", d.Rename("other", moved), api.OK); kept(moved) {
		t.Error("Rename keeps the text of which the name is a piece")
	}
}

func TestMemoryOfCrash(t *testing.T) {
	items := []int{1, -5, 100}
	keep := memtest.Roomy(items, -77)
	d := build(t, 100, "a:|12", "b:|34", "c:|56", "d:|78")
	d.Crash(keep)
	if !memtest.Kept(keep, items, -77) {
		t.Errorf("Crash changed its argument to %d", keep)
	}
	has(t, d, "a:1|", "c:56|")
}

func TestLargeDisk(t *testing.T) {
	d := fresh(t, api.MaxBytes)
	var keep []int
	for i := range api.MaxFiles {
		must(t, "Append", d.Append(fmt.Sprintf("%05x", i), bytes.Repeat([]byte{byte(i)}, 16)), api.OK)
		keep = append(keep, i%18)
	}
	must(t, "Append", d.Append("00000", []byte("x")), api.ErrFull)
	c := d.Clone()
	d.Crash(keep)
	left := 0
	for i := range api.MaxFiles {
		b, _ := d.Read(fmt.Sprintf("%05x", i))
		if want := min(i%18, 16); !bytes.Equal(b, bytes.Repeat([]byte{byte(i)}, want)) {
			t.Fatalf("file %d has %q", i, b)
		}
		left += len(b)
	}
	if d.Room() != api.MaxBytes-left || len(c.List()) != api.MaxFiles || c.Room() != 0 {
		t.Errorf("room for %d, clone %d files and room for %d", d.Room(), len(c.List()), c.Room())
	}
}
