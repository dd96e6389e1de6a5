package audit

import "postroad/api"

// Fetches tells whether fetched records are such as may be, and which fetch is not: at an offset always the same record, one that a client was given.
func Fetches(l []api.Fetched, said []Said) (api.Errno, int) {
	texts := textsOf(said)
	at := map[int]api.Record{}
	for i, f := range l {
		if f.Err != api.OK {
			continue
		}
		if !rises(f) || !goesWith(at, f.Records) {
			return api.ErrOrder, i
		}
		if !areAmong(texts, f.Records) {
			return api.ErrNone, i
		}
	}
	return api.OK, 0
}

// rises tells whether a fetch's records rise strictly, none of them below its From.
func rises(f api.Fetched) bool {
	for i, r := range f.Records {
		if r.Offset < f.From || i > 0 && r.Offset <= f.Records[i-1].Offset {
			return false
		}
	}
	return true
}

// goesWith notes records that rise by their offsets, unless another one was noted at one of them.
func goesWith(at map[int]api.Record, l []api.Record) bool {
	for _, r := range l {
		if first, is := at[r.Offset]; is && first != r {
			return false
		}
		at[r.Offset] = r
	}
	return true
}

// textsOf are records that were said, their offsets aside.
func textsOf(said []Said) map[api.Record]struct{} {
	texts := map[api.Record]struct{}{}
	for _, s := range said {
		for _, r := range s.Records {
			r.Offset = 0
			texts[r] = struct{}{}
		}
	}
	return texts
}

func areAmong(texts map[api.Record]struct{}, l []api.Record) bool {
	for _, r := range l {
		r.Offset = 0
		if _, is := texts[r]; !is {
			return false
		}
	}
	return true
}
