package disk

import (
	"bytes"
	"fmt"
	"slices"
	"sort"
	"testing"

	"gristmill/api"
	"gristmill/internal/memtest"
)

// modelFile is a file as the words of the chapter tell of it; for each byte, it says whether it is synced.
type modelFile struct {
	name      string
	data      []byte
	synced    []bool
	wasSynced bool
}

// model is a disk by the words of the chapter: its files stand in a list without an order, and every number is counted anew.
type model struct {
	capacity int
	files    []modelFile
	armed    bool
	calls    int // those that may still be made if it is armed
	died     bool
}

// act is a call on a disk.
type act struct {
	what     string
	name, to string
	data     []byte
	n        int
	keep     []int
}

func (a act) on(d *Disk) api.Errno {
	switch a.what {
	case "append":
		return d.Append(a.name, a.data)
	case "sync":
		return d.Sync(a.name)
	case "rename":
		return d.Rename(a.name, a.to)
	case "remove":
		return d.Remove(a.name)
	case "cut":
		return d.Cut(a.name, a.n)
	case "crash":
		d.Crash(a.keep)
	case "arm":
		d.Arm(a.n)
	}
	return api.OK
}

func (m *model) find(name string) int {
	return slices.IndexFunc(m.files, func(f modelFile) bool { return f.name == name })
}

func (m *model) used() int {
	n := 0
	for _, f := range m.files {
		n += len(f.data)
	}
	return n
}

func (m *model) do(a act) api.Errno {
	switch a.what {
	case "crash":
		m.crash(a.keep)
		return api.OK
	case "arm":
		m.armed, m.calls, m.died = a.n >= 0, a.n, false
		return api.OK
	}
	if len(a.name) == 0 || len(a.name) > 64 || a.what == "rename" && (len(a.to) == 0 || len(a.to) > 64) {
		return api.ErrArg
	}
	if m.armed {
		m.calls--
		if m.calls < 0 {
			m.died = true
			return api.ErrDead
		}
	}
	if a.what == "append" {
		return m.append(a.name, a.data)
	}
	at := m.find(a.name)
	if at < 0 {
		return api.ErrNone
	}
	return m.change(at, a)
}

func (m *model) append(name string, b []byte) api.Errno {
	if m.used()+len(b) > m.capacity {
		return api.ErrFull
	}
	at := m.find(name)
	if at < 0 && len(m.files) == 65536 {
		return api.ErrMany
	}
	if at < 0 {
		at = len(m.files)
		m.files = append(m.files, modelFile{name: name})
	}
	f := &m.files[at]
	f.data = slices.Concat(f.data, b)
	f.synced = slices.Concat(f.synced, make([]bool, len(b)))
	return api.OK
}

func (m *model) change(at int, a act) api.Errno {
	f := &m.files[at]
	switch a.what {
	case "sync":
		f.synced = all(len(f.data))
		f.wasSynced = true
	case "rename":
		moved := *f
		moved.name = a.to
		m.files = append(m.without(a.name, a.to), moved)
	case "remove":
		m.files = m.without(a.name)
	case "cut":
		if a.n < 0 || a.n > len(f.data) {
			return api.ErrArg
		}
		f.data = slices.Clone(f.data[:a.n])
		f.synced = slices.Clone(f.synced[:a.n])
	}
	return api.OK
}

// without returns the files that have none of the names.
func (m *model) without(names ...string) []modelFile {
	var l []modelFile
	for _, f := range m.files {
		if !slices.Contains(names, f.name) {
			l = append(l, f)
		}
	}
	return l
}

func all(n int) []bool {
	l := make([]bool, n)
	for i := range l {
		l[i] = true
	}
	return l
}

func (m *model) crash(keep []int) {
	m.armed, m.died = false, false
	m.files = m.sorted()
	var l []modelFile
	for i, f := range m.files {
		spare := 0
		if i < len(keep) && keep[i] > 0 {
			spare = keep[i]
		}
		var data []byte
		for j, c := range f.data {
			if f.synced[j] {
				data = append(data, c)
			} else if spare > 0 {
				data = append(data, c)
				spare--
			}
		}
		if len(data) > 0 {
			l = append(l, modelFile{f.name, data, all(len(data)), true})
		} else if f.wasSynced {
			l = append(l, modelFile{f.name, nil, nil, true})
		}
	}
	m.files = l
}

func (m *model) sorted() []modelFile {
	l := slices.Clone(m.files)
	sort.Slice(l, func(i, j int) bool { return bytes.Compare([]byte(l[i].name), []byte(l[j].name)) < 0 })
	return l
}

func (m *model) clone() *model {
	c := *m
	c.files = slices.Clone(m.files)
	return &c
}

// differs tells where a disk is not as its model.
func (m *model) differs(d *Disk) string {
	l := d.List()
	want := m.sorted()
	if len(l) != len(want) {
		return fmt.Sprintf("the files are %q, want %v", l, want)
	}
	for i, f := range want {
		n := 0
		for _, s := range f.synced {
			if s {
				n++
			}
		}
		b, e := d.Read(f.name)
		synced, all, ok := d.State(f.name)
		if l[i] != f.name || e != api.OK || !bytes.Equal(b, f.data) || synced != n || all != len(f.data) || !ok {
			return fmt.Sprintf("file %q is %q, %d, with %d of %d synced, want %v", l[i], b, e, synced, all, f)
		}
	}
	if d.Room() != m.capacity-m.used() || d.Dead() != m.died {
		return fmt.Sprintf("room %d, dead %t, want %d, %t", d.Room(), d.Dead(), m.capacity-m.used(), m.died)
	}
	return ""
}

// few are calls of each kind on two names.
func few() []act {
	return []act{
		{what: "append", name: "a", data: []byte("123")},
		{what: "append", name: "b", data: []byte("45")},
		{what: "append", name: "b"},
		{what: "sync", name: "a"},
		{what: "sync", name: "b"},
		{what: "rename", name: "a", to: "b"},
		{what: "rename", name: "b", to: "a"},
		{what: "remove", name: "b"},
		{what: "cut", name: "a", n: 1},
		{what: "cut", name: "b", n: 0},
		{what: "crash"},
		{what: "crash", keep: []int{1, 1}},
		{what: "arm", n: 2},
	}
}

// TestShortRuns tries every run of up to five of the few calls.
func TestShortRuns(t *testing.T) {
	calls := few()
	var run func(d *Disk, m *model, left int, told string)
	run = func(d *Disk, m *model, left int, told string) {
		for i, a := range calls {
			if t.Failed() {
				return
			}
			x, y := d.Clone(), m.clone()
			e, want := a.on(x), y.do(a)
			path := fmt.Sprint(told, " ", i)
			if e != want {
				t.Errorf("calls%s: returned %d, want %d", path, e, want)
			}
			if s := y.differs(x); s != "" {
				t.Errorf("calls%s: %s", path, s)
			}
			if left > 1 {
				run(x, y, left-1, path)
			}
		}
	}
	run(fresh(t, 7), &model{capacity: 7}, 5, "")
}

// drawn is a call made of some bytes.
func drawn(b []byte) act {
	names := []string{"a", "b", "c", "aa", "", longest, longest + "n"}
	kinds := []string{"append", "append", "append", "append", "sync", "sync", "rename", "rename", "remove", "cut", "crash", "arm"}
	pick := func(c byte) string { return names[int(c)%len(names)] }
	a := act{what: kinds[int(b[0])%len(kinds)], name: pick(b[1]), to: pick(b[2]), n: int(b[3])%9 - 1}
	a.data = b[4 : 4+int(b[4])%6]
	for _, c := range b[9 : 9+int(b[9])%7] {
		a.keep = append(a.keep, int(c)%8-1)
	}
	if a.what == "arm" && b[3]%3 == 0 {
		a.n = -1
	}
	return a
}

// TestLongRuns makes many calls on disks in pairs; now and then one of a pair becomes a clone of the other.
func TestLongRuns(t *testing.T) {
	const width = 16
	b := memtest.Mixed(width * 60000)
	var disks []*Disk
	var models []*model
	for _, room := range []int{1, 1, 9, 9, 30, 30} {
		disks = append(disks, fresh(t, room))
		models = append(models, &model{capacity: room})
	}
	for i := 0; i+width < len(b) && !t.Failed(); i += width {
		at := int(b[i+15]) % len(disks)
		a := drawn(b[i:])
		if e, want := a.on(disks[at]), models[at].do(a); e != want {
			t.Errorf("call %d, %v: returned %d, want %d", i/width, a, e, want)
		}
		if b[i+14] < 3 {
			to := at ^ 1
			disks[to], models[to] = disks[at].Clone(), models[at].clone()
		}
		for j, m := range models {
			if s := m.differs(disks[j]); s != "" {
				t.Errorf("call %d, %v, disk %d: %s", i/width, a, j, s)
			}
		}
	}
}
