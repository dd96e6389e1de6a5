package vdisk_test

import (
	"slices"
	"strings"
	"testing"

	"postroad/api"
	"postroad/vdisk"
)

// kept is a file of the model: what is synced, and its tail.
type kept struct {
	name, synced, tail string
}

func (k kept) all() string { return k.synced + k.tail }

// model is the chapter's words, with files in a list by their names, rising.
type model struct {
	room  int
	files []kept
}

func (m *model) find(name string) (int, bool) {
	return slices.BinarySearchFunc(m.files, name, func(k kept, name string) int { return strings.Compare(k.name, name) })
}

func (m *model) used() int {
	n := 0
	for _, k := range m.files {
		n += len(k.all())
	}
	return n
}

func (m *model) names() []string {
	var names []string
	for _, k := range m.files {
		names = append(names, k.name)
	}
	return names
}

func goodName(name string) bool {
	bad := strings.IndexFunc(name, func(r rune) bool { return r < '!' || r > '~' })
	return name != "" && len(name) <= 32 && bad < 0
}

// known is where the file of a name stands, or the error of a name without one.
func (m *model) known(name string) (int, api.Errno) {
	i, ok := m.find(name)
	switch {
	case !goodName(name):
		return 0, api.ErrArg
	case !ok:
		return 0, api.ErrNone
	}
	return i, api.OK
}

func (m *model) append(name, s string) api.Errno {
	i, ok := m.find(name)
	switch {
	case !goodName(name):
		return api.ErrArg
	case !ok && len(m.files) == 256:
		return api.ErrFull
	case m.used()+len(s) > m.room:
		return api.ErrDisk
	case !ok:
		m.files = slices.Insert(m.files, i, kept{name, "", s})
	default:
		m.files[i].tail += s
	}
	return api.OK
}

func (m *model) sync(name string) api.Errno {
	i, e := m.known(name)
	if e == api.OK {
		m.files[i] = kept{name, m.files[i].all(), ""}
	}
	return e
}

func (m *model) cut(name string, size int) api.Errno {
	if size < 0 {
		return api.ErrArg
	}
	i, e := m.known(name)
	if e == api.OK && size > len(m.files[i].all()) {
		return api.ErrArg
	}
	if e == api.OK {
		m.files[i] = kept{name, m.files[i].all()[:size], ""}
	}
	return e
}

func (m *model) rename(from, to string) api.Errno {
	if !goodName(to) {
		return api.ErrArg
	}
	i, e := m.known(from)
	if e != api.OK || from == to {
		return e
	}
	k := m.files[i]
	m.files = slices.Delete(m.files, i, i+1)
	j, ok := m.find(to)
	if ok {
		m.files = slices.Delete(m.files, j, j+1)
	}
	m.files = slices.Insert(m.files, j, kept{to, k.synced, k.tail})
	return api.OK
}

func (m *model) remove(name string) api.Errno {
	i, e := m.known(name)
	if e == api.OK {
		m.files = slices.Delete(m.files, i, i+1)
	}
	return e
}

func (m *model) crash(keep []int) {
	for i, k := range m.files {
		survives := ""
		if i < len(keep) && keep[i] > 0 {
			survives = k.tail[:min(keep[i], len(k.tail))]
		}
		m.files[i] = kept{k.name, k.synced + survives, ""}
	}
}

func (m *model) copy() *model {
	return &model{m.room, slices.Clone(m.files)}
}

// newDisk is a disk that New gave.
func newDisk(t *testing.T, room int) *vdisk.Disk {
	t.Helper()
	d, e := vdisk.New(room)
	if d == nil || e != api.OK {
		t.Fatalf("New(%d): %v, %d", room, d, e)
	}
	return d
}

// checkSame holds all that a disk tells against the model.
func checkSame(t *testing.T, d *vdisk.Disk, m *model) {
	t.Helper()
	if names := d.Names(); !slices.Equal(names, m.names()) {
		t.Fatalf("Names: %q, not %q", names, m.names())
	}
	if n := d.Used(); n != m.used() {
		t.Fatalf("Used: %d, not %d", n, m.used())
	}
	for _, k := range m.files {
		checkFile(t, d, k)
	}
}

// checkFile holds what a disk tells of a file against the model's.
func checkFile(t *testing.T, d *vdisk.Disk, k kept) {
	t.Helper()
	all := k.all()
	if n := d.Size(k.name); n != len(all) {
		t.Fatalf("Size(%q): %d, not %d", k.name, n, len(all))
	}
	if n := d.Synced(k.name); n != len(k.synced) {
		t.Fatalf("Synced(%q): %d, not %d", k.name, n, len(k.synced))
	}
	if s, e := d.Read(k.name, 0, len(all)); s != all || e != api.OK {
		t.Fatalf("Read(%q, 0, %d): %.40q, %d, not %.40q", k.name, len(all), s, e, all)
	}
}

// want holds an error against the one that the chapter names.
func want(t *testing.T, what string, got, e api.Errno) {
	t.Helper()
	if got != e {
		t.Fatalf("%s: %d, not %d", what, got, e)
	}
}
