package cluster_test

import (
	"cmp"
	"slices"

	"postroad/api"
)

// What layer 18 asks of acks and fetches, by its chapter's words.

func isGood(a api.Ack) bool {
	return a.Err == api.OK && a.Base >= 0 && a.Base <= api.MaxOffset && a.Count >= 1 && a.Count <= api.MaxRecords
}

// checkAcks: of one batch the same offsets, of two batches others.
func (s *script) checkAcks() {
	s.Helper()
	var good []api.Ack // of each batch one
	at := map[api.Id]api.Ack{}
	for _, a := range s.x.Acks() {
		if a.Err != api.OK {
			continue
		}
		other, told := at[a.Id]
		if !isGood(a) || told && (a.Base != other.Base || a.Count != other.Count) {
			s.Fatal("an ack that is not good:", a, other)
		}
		if !told {
			at[a.Id] = a
			good = append(good, a)
		}
	}
	slices.SortFunc(good, func(a, b api.Ack) int { return cmp.Compare(a.Base, b.Base) })
	for i, a := range good {
		if i > 0 && good[i-1].Base+good[i-1].Count > a.Base {
			s.Fatal("two batches have an offset:", good[i-1], a)
		}
	}
}

// checkFetches: at one offset always the same record, one that was said.
func (s *script) checkFetches() {
	s.Helper()
	wasSaid := map[api.Record]bool{}
	for _, b := range s.said {
		for _, r := range b.records {
			r.Offset = 0
			wasSaid[r] = true
		}
	}
	at := map[int]api.Record{}
	for i, f := range s.x.Fetched() {
		last := f.From - 1
		for _, r := range f.Records {
			other, was := at[r.Offset]
			if r.Offset <= last || was && other != r {
				s.Fatal("fetch", i, ":", r, "not above", last, "or not", other)
			}
			last = r.Offset
			at[last] = r
			r.Offset = 0
			if !wasSaid[r] {
				s.Fatal("fetch", i, ": nobody said", r)
			}
		}
	}
}

// batches are those that were said and acked: their first acks, and their records with the offsets that these name.
func (s *script) batches() ([]api.Ack, [][]api.Record) {
	var acks []api.Ack
	var records [][]api.Record
	for _, a := range s.x.Acks() {
		if !isGood(a) || slices.ContainsFunc(acks, func(b api.Ack) bool { return b.Id == a.Id }) {
			continue
		}
		place := slices.IndexFunc(s.said, func(b said) bool { return b.id == a.Id })
		if place < 0 {
			s.Fatal("nobody asked for", a)
		}
		l := slices.Clone(s.said[place].records)
		for i := range l {
			l[i].Offset = a.Base + i
		}
		acks = append(acks, a)
		records = append(records, l[:min(a.Count, len(l))])
	}
	return acks, records
}

// checkKeeps: a fetch behind an ack tells each of the batch's records that it goes over, or one of its key stands behind it.
func (s *script) checkKeeps() {
	s.Helper()
	acks, records := s.batches()
	highest := map[string]int{} // of each key, where it is told or acked
	note := func(l []api.Record) {
		for _, r := range l {
			highest[r.Key] = max(highest[r.Key], r.Offset)
		}
	}
	for _, l := range records {
		note(l)
	}
	for _, f := range s.x.Fetched() {
		note(f.Records)
	}
	for i, f := range s.x.Fetched() {
		if len(f.Records) == 0 {
			continue
		}
		last := f.Records[len(f.Records)-1].Offset
		has := map[int]bool{}
		for _, r := range f.Records {
			has[r.Offset] = true
		}
		for k, a := range acks {
			for _, r := range records[k] {
				goesOver := a.Step < f.Step && r.Offset >= f.From && r.Offset <= last
				if goesOver && !has[r.Offset] && highest[r.Key] <= r.Offset {
					s.Fatal("fetch", i, f.At, f.From, "lacks", r, "of", a)
				}
			}
		}
	}
}

// checkOneByOne: each client was answered for one batch after another, and for each once for good.
func (s *script) checkOneByOne() {
	s.Helper()
	done := map[int]int{}
	step := 0
	for _, a := range s.x.Acks() {
		if a.Step < step || a.Step >= s.x.Steps() || a.Id.Seq != done[a.Id.Producer] {
			s.Fatal("out of its turn:", a, step, done[a.Id.Producer])
		}
		step = a.Step
		switch a.Err {
		case api.OK, api.ErrLarge:
			done[a.Id.Producer]++
		case api.ErrPrimary, api.ErrQueue, api.ErrDisk:
		default:
			s.Fatal("no such answer:", a)
		}
		if a.Err != api.OK && (a.Base != 0 || a.Count != 0) {
			s.Fatal("beside an error:", a)
		}
	}
	for client := range s.c.Clients {
		given, n := s.x.Asked(client)
		if n != done[client] || n > given {
			s.Fatal("Asked:", client, given, n, done[client])
		}
	}
}

// checkAsks holds all that was told to what layer 18 asks, whatever the script was.
func (s *script) checkAsks() {
	s.Helper()
	s.checkAcks()
	s.checkFetches()
	s.checkOneByOne()
}

// fetchAll asks all nodes for all records: they are the same, at the offsets up to their Commit.
func (s *script) fetchAll() []api.Record {
	s.Helper()
	var all []api.Record
	for node := range s.c.Nodes {
		l := s.fetch(node, 0, 1<<40)
		if node == 0 || len(l) > len(all) {
			all = l // that of the one that compacted least
		}
	}
	return all
}
