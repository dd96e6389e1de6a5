package audit_test

import (
	"math"
	"testing"

	"postroad/api"
	"postroad/audit"
)

var words = []audit.Said{said(0, 0, "a=1 b=2"), said(0, 1, "c a=3"), said(1, 0, "d=")}

// Au2: fetches of one log, at any node and in any order, with records left out.
func TestAu2Fine(t *testing.T) {
	want(t, "none", fetches(nil, words), fine)
	want(t, "none, nothing said", fetches(nil, nil), fine)
	l := []api.Fetched{
		fetch(5, 1, "1b=2 2c 3a=3 4d="),
		fetch(3, 0, "0a=1 1b=2"),
		fetch(9, 0, "1b=2 3a=3"),
		fetch(9, 4, ""),
		fetch(9, 2, "2c"),
		fetch(9, math.MinInt, "0a=1 9d="),
	}
	want(t, "of one log", fetches(l, words), fine)
	l[1].At, l[2].At = 2, -7
	want(t, "at any node", fetches(l, words), fine)
	want(t, "a record again at another offset", fetches([]api.Fetched{fetch(0, 0, "0a=1 1a=1 2a=1")}, words), fine)
	want(t, "offsets below 0", fetches([]api.Fetched{fetch(0, -5, "-5a=1 -4c")}, words), fine)
}

// Au2: a fetch's records rise strictly, from From on.
func TestAu2Order(t *testing.T) {
	for _, text := range []string{"3a=1 3a=1", "3a=1 2c", "2c 3a=1 4d= 4d=", "2c 3a=1 4d= 3a=1", "1b=2", "1b=2 2c", "2c 1b=2", "-1c"} {
		l := []api.Fetched{fetch(0, 2, "2c 3a=1"), fetch(0, 2, text), fetch(0, 2, "2d=")}
		want(t, text, fetches(l, words), answer{api.ErrOrder, 1})
	}
	want(t, "at From", fetches([]api.Fetched{fetch(0, 2, "2c")}, words), fine)
	want(t, "below From", fetches([]api.Fetched{fetch(0, 3, "2c")}, words), answer{api.ErrOrder, 0})
	want(t, "below From", fetches([]api.Fetched{fetch(0, math.MaxInt, "2c")}, words), answer{api.ErrOrder, 0})
}

// Au2: at the offset of another fetch's record is the same one.
func TestAu2SameRecord(t *testing.T) {
	other := append([]audit.Said{said(2, 0, "a=2 b=1 a b c= a= d")}, words...)
	for _, text := range []string{"0a=2", "0b=1", "0a", "0a=", "0c=", "1b=1", "1b", "0a=1 1a=1", "2d="} {
		l := []api.Fetched{fetch(0, 0, "0a=1 1b=2"), fetch(0, 2, "2c"), fetch(0, 0, "0a=1"), fetch(0, 0, text)}
		want(t, text, fetches(l, other), answer{api.ErrOrder, 3})
	}
	gone := []api.Fetched{fetch(0, 0, "0a="), fetch(0, 0, "0a")}
	want(t, "gone, and not", fetches(gone, other), answer{api.ErrOrder, 1})
}

// Au2: each record is one of those that were said, its offset aside.
func TestAu2Said(t *testing.T) {
	for _, text := range []string{"9a=1", "9b=2", "9c", "9a=3", "9d="} {
		want(t, text, fetches([]api.Fetched{fetch(0, 0, "0a=1"), fetch(0, 0, text)}, words), fine)
	}
	for _, text := range []string{"9a=2", "9b=1", "9c=", "9d", "9a", "9e=1", "9a=1 10a=4", "0a=1 1e"} {
		l := []api.Fetched{fetch(0, 0, "0a=1"), fetch(0, 0, text), fetch(0, 0, "0c")}
		want(t, text, fetches(l, words), answer{api.ErrNone, 1})
	}
	want(t, "nothing said", fetches([]api.Fetched{fetch(0, 0, ""), fetch(0, 0, "0a=1")}, nil), answer{api.ErrNone, 1})
	want(t, "said with any offset", fetches([]api.Fetched{fetch(0, 0, "5a=1")}, []audit.Said{said(0, 0, "-9a=1")}), fine)
	again := []audit.Said{said(0, 0, "a=1"), said(0, 0, "b=2"), {}}
	want(t, "said of an Id that was said", fetches([]api.Fetched{fetch(0, 0, "0b=2")}, again), fine)
	odd := []audit.Said{{Records: []api.Record{{Key: "a", Value: "1", Gone: true}}}}
	want(t, "gone with a value", fetches([]api.Fetched{fetch(0, 0, "0a=1")}, odd), answer{api.ErrNone, 0})
	want(t, "gone without one", fetches([]api.Fetched{fetch(0, 0, "0a")}, odd), answer{api.ErrNone, 0})
}

// Au2: the first fetch that has an error; of two of one fetch ErrOrder.
func TestAu2TwoErrors(t *testing.T) {
	for _, text := range []string{"0x 0x", "0x 1y 0a=1", "-1x", "2x 3c 1b=2", "0b=2 2x", "0x"} {
		l := []api.Fetched{fetch(0, 0, "0a=1"), fetch(0, 0, text), fetch(0, 0, "9x")}
		want(t, text, fetches(l, words), answer{api.ErrOrder, 1})
	}
	unsaid, unordered := fetch(0, 0, "9x"), fetch(0, 0, "8a=1 8a=1")
	want(t, "ErrNone ahead", fetches([]api.Fetched{unsaid, unordered}, words), answer{api.ErrNone, 0})
	want(t, "ErrOrder ahead", fetches([]api.Fetched{unordered, unsaid}, words), answer{api.ErrOrder, 0})
}

// Au2: answers that are not OK are passed over, and what they tell is not held against others.
func TestAu2Errors(t *testing.T) {
	for _, e := range []api.Errno{api.ErrDown, api.ErrArg, -1} {
		wrong := fetch(0, 5, "0x 0y 1a=1")
		wrong.Err = e
		want(t, "passed over", fetches([]api.Fetched{wrong, fetch(0, 0, "0a=1 1b=2"), wrong, fetch(0, 0, "1b=2")}, words), fine)
		want(t, "counted", fetches([]api.Fetched{wrong, fetch(0, 0, "0a=1"), wrong, fetch(0, 0, "0b=2")}, words), answer{api.ErrOrder, 3})
	}
}
