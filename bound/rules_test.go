package bound_test

import (
	"math"
	"math/rand"
	"slices"
	"sync"
	"testing"

	"postroad/api"
	"postroad/bound"
)

// same tells whether two lists of steps are the same.
func same(a, b []api.Step) bool {
	return slices.EqualFunc(a, b, func(a, b api.Step) bool {
		return a.Kind == b.Kind && a.At == b.At && a.N == b.N && a.Max == b.Max &&
			len(a.Records) == len(b.Records) && slices.Equal(a.Keep, b.Keep)
	})
}

// R1: each call ends at all arguments, and refuses what may not be, as the chapter says.
func TestR1Wild(t *testing.T) {
	wild := []int{math.MinInt, -1 << 40, -1, 0, 1, 2, 3, 4, 5, 7, 8, 16, 17, 64, 65, 100, 101, 999, 1000, 1 << 16, 1<<16 + 1, 1 << 24, 1<<24 + 1, 1 << 40, math.MaxInt}
	r := rand.New(rand.NewSource(1))
	one := func() int { return wild[r.Intn(len(wild))] }
	seen := 0
	for range 200000 {
		c := config(3 + 2*r.Intn(3))
		mayBe := true
		for range r.Intn(3) {
			f := fields()[r.Intn(7)]
			*f.of(&c) = one()
		}
		for i, f := range fields() {
			n := *f.of(&c)
			least, most := f.right[0], f.right[len(f.right)-1]
			mayBe = mayBe && n >= least && n <= most && (i > 0 || n%2 == 1)
		}
		given := one()
		n, e := bound.Rounds(c, given)
		if mayBe && given >= 0 && given <= 1<<16 {
			want(t, "Rounds", n, (c.Nodes+2)*(2*c.Patience+8)+given*(4*c.Nodes+4))
			want(t, "Rounds", e, api.OK)
			seen++
		} else {
			want(t, "Rounds", n, 0)
			want(t, "Rounds", e, api.ErrArg)
		}
		calm, e := bound.Calm(c)
		want(t, "Calm", e == api.OK, mayBe)
		want(t, "Calm", len(calm) > 0, mayBe)
		starts, e := bound.Starts(c)
		want(t, "Starts", e == api.OK, mayBe)
		want(t, "Starts", len(starts) > 0, mayBe)
		if t.Failed() {
			t.Fatal(c, given)
		}
	}
	want(t, "enough that may be", seen > 1000, true)
}

// R2: beside an error there is nothing, and what was refused is not to be told behind it.
func TestR2Refused(t *testing.T) {
	c := config(5)
	was, n := calm(t, c), rounds(t, c, 4)
	wrong := c
	wrong.Nodes = 6
	want(t, "refused", errnos(t, wrong), [3]api.Errno{api.ErrArg, api.ErrArg, api.ErrArg})
	want(t, "Rounds", rounds(t, c, 4), n)
	want(t, "the same", same(calm(t, c), was), true)
}

// R3: answers are new memory, their spare room too: what becomes of one does not change another.
func TestR3Answers(t *testing.T) {
	for _, nodes := range []int{3, 5, 7} {
		for _, clients := range []int{1, 3, 16} {
			c := config(nodes)
			c.Clients = clients
			for _, call := range []func(testing.TB, api.Config) []api.Step{calm, starts} {
				a, b := call(t, c), call(t, c)
				was := slices.Clone(b)
				for i := range a[:cap(a)] {
					a[:cap(a)][i] = api.Step{Kind: -1, Keep: []int{1}}
				}
				want(t, "the same", same(b, was) && same(call(t, c), was), true)
				for i := range b[:cap(b)] {
					want(t, "not changed", b[:cap(b)][i].Kind == -1, false)
				}
			}
		}
	}
}

// R4: the same is answered again, also by calls that go on at one time.
func TestR4Same(t *testing.T) {
	var all []api.Config
	r := rand.New(rand.NewSource(2))
	for range 200 {
		all = append(all, someConfig(r, 3+2*r.Intn(3), r.Intn(3)))
	}
	var group sync.WaitGroup
	type answer struct {
		n            int
		calm, starts []api.Step
	}
	tell := func(c api.Config) answer { return answer{rounds(t, c, 5), calm(t, c), starts(t, c)} }
	var first []answer
	for _, c := range all {
		first = append(first, tell(c))
	}
	for worker := range 4 {
		group.Go(func() {
			for i := range all {
				at := (i*7 + worker*31) % len(all)
				got := tell(all[at])
				if got.n != first[at].n || !same(got.calm, first[at].calm) || !same(got.starts, first[at].starts) {
					t.Error("not the same:", all[at])
				}
			}
		})
	}
	group.Wait()
}
