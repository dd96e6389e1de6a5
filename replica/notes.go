package replica

import (
	"strconv"

	"postroad/api"
	"postroad/vdisk"
)

// notes are what a node must know behind a crash, besides its log. None of the numbers ever falls.
type notes struct {
	view   int // its view
	normal int // the last view in which its log was as the primary's
	commit int // up to where all is committed, and in its log
	hold   int // this is committed, and its log may lack records since others of their keys stand ahead of this offset: commit does not stop on the way to it
}

const (
	numberBytes = 8
	notesBytes  = 4 * numberBytes
)

// known is up to where it knows all to be committed, in its log or not.
func (x notes) known() int { return max(x.commit, x.hold) }

func (x notes) mayBe() bool {
	return isWithin(x.view, 0, maxView) && isWithin(x.normal, 0, x.view) &&
		isWithin(x.commit, 0, api.MaxOffset) && isWithin(x.hold, 0, api.MaxOffset)
}

// isLater tells whether notes were written behind others.
func (x notes) isLater(y notes) bool {
	return x.view > y.view || x.normal > y.normal || x.commit > y.commit || x.hold > y.hold
}

func (x notes) bytes() string {
	var out []byte
	for _, number := range []int{x.view, x.normal, x.commit, x.hold} {
		for i := range numberBytes {
			out = append(out, byte(number>>(8*i)))
		}
	}
	return string(out)
}

// notesOf are the notes of bytes, if they are whole.
func notesOf(s string) (notes, bool) {
	if len(s) != notesBytes {
		return notes{}, false
	}
	var x notes
	for _, number := range []*int{&x.view, &x.normal, &x.commit, &x.hold} {
		for i := range numberBytes {
			*number |= int(s[i]) << (8 * i)
		}
		s = s[numberBytes:]
	}
	if !x.mayBe() {
		return notes{}, false
	}
	return x, true
}

// notebook is where notes stand: two files that are written in turn, so that one of them is whole at any time. They keep their sizes: there is room for the next notes on a full disk, too.
type notebook struct {
	disk *vdisk.Disk
	next int // the number of the file that is to be written
}

const noteFiles = 2

// The name is none of those that the log may have.
func noteFile(number int) string { return "node" + strconv.Itoa(number) }

// open tells the last notes, if there are any.
func (b *notebook) open() (notes, bool) {
	var last notes
	found := false
	for number := range noteFiles {
		name := noteFile(number)
		s, _ := b.disk.Read(name, 0, max(0, b.disk.Size(name)))
		x, ok := notesOf(s)
		if !ok || found && !x.isLater(last) {
			continue
		}
		last, found = x, true
		b.next = (number + 1) % noteFiles
	}
	return last, found
}

// write lets notes be the last ones, and survive; false: the disk has no room.
func (b *notebook) write(x notes) bool {
	name := noteFile(b.next)
	b.disk.Cut(name, 0)
	if b.disk.Append(name, x.bytes()) != api.OK || b.disk.Sync(name) != api.OK {
		return false
	}
	b.next = (b.next + 1) % noteFiles
	return true
}

// isWhole tells whether both files are there: then there is room for any notes to come.
func (b *notebook) isWhole() bool {
	for number := range noteFiles {
		if b.disk.Size(noteFile(number)) != notesBytes {
			return false
		}
	}
	return true
}

// takeNotes lets a node be as its disk's notes tell or, without any, as its log does, whose last batch is of a view.
func (n *Node) takeNotes(view int) {
	x, found := n.book.open()
	if !found {
		x = notes{view: view, normal: view}
	}
	x.commit = min(x.commit, n.log.End())
	n.notes = x
	n.canNote()
}

// canNote tells whether there is room for any notes to come, and keeps it, if it is not kept yet.
func (n *Node) canNote() bool {
	for range noteFiles {
		if !n.book.isWhole() {
			n.book.write(n.notes)
		}
	}
	return n.book.isWhole()
}

// note lets a node's notes be others; false: they could not be written, and are as they were.
func (n *Node) note(x notes) bool {
	if !x.mayBe() || !n.book.write(x) {
		return false
	}
	n.notes = x
	return true
}
