package prove_test

import (
	"slices"
	"testing"

	"mendproof/api"
	"mendproof/clause"
	"mendproof/prove"
	"mendproof/simp"
)

func TestI2Pick(t *testing.T) {
	for _, x := range []struct {
		name, given string
		places      []int
		want        string
	}{
		{"two picks, and nothing is left", "b(X0)=X0; b(a)!=a", []int{0, 0}, `
1 [0] b(X0)=X0
1 [1] b(a)!=a
5 [1 0] []
active [0] wait [] found 2 lost false`},
		{"it is active, last", "b(X0)=X0; c(X0,X1)=a; a!=d", []int{1, 1, 0}, `
1 [0] b(X0)=X0
1 [1] c(X0,X1)=a
1 [2] d!=a
active [1 2 0] wait [] found -1 lost false`},
		{"by all units that are active, as they are, used or not", "d=a; b(X0)=X0; c(a,d)!=d; c(d,d)!=b(a)", []int{1, 0, 0}, `
1 [0] d=a
1 [1] b(X0)=X0
1 [2] c(a,d)!=d
1 [3] c(d,d)!=b(a)
5 [2 1 0] c(a,a)!=a
active [1 0 4] wait [3] found -1 lost false`},
		{"not by those that wait, nor by those that are no units", "b(X0)=X0; a!=d; b(b(a))!=d | X0=d; c(b(a),X0)=a; c(b(a),a)!=d", []int{1, 1, 2}, `
1 [0] b(X0)=X0
1 [1] d!=a
1 [2] b(b(a))!=d | X0=d
1 [3] c(b(a),X0)=a
1 [4] c(b(a),a)!=d
4 [2 1] b(b(a))!=d | X0!=a
4 [2 2] b(b(a))!=d | X0=X1
active [1 2 4] wait [0 3 5 6] found -1 lost false`},
		{"it is the same: no step", "b(b(X0))=X0; c(b(a),d)!=a", []int{0, 0}, `
1 [0] b(b(X0))=X0
1 [1] c(b(a),d)!=a
active [0 1] wait [] found -1 lost false`},
		{"what is rewritten is meant from then on", "a=d; a!=d | X0=a", []int{0, 0, 0}, `
1 [0] d=a
1 [1] d!=a | X0=a
5 [1 0] X0=a
4 [2 2] X0=X1
active [0 2 3] wait [] found -1 lost false`},
		{"rewritten, it holds always: gone, and nothing is lost", "b(X0)=X0; b(a)=a | c(a,a)=d; a!=d", []int{0, 0}, `
1 [0] b(X0)=X0
1 [1] b(a)=a | c(a,a)=d
1 [2] d!=a
active [0] wait [2] found -1 lost false`},
		{"an active one covers it", "X0!=a | b(X1)=X1; a!=d | b(a)=a | a=c(X0,X0)", []int{0, 0}, `
1 [0] X0!=a | b(X1)=X1
1 [1] d!=a | b(a)=a | c(X0,X0)=a
2 [0] b(X0)=X0
active [0] wait [2] found -1 lost false`},
		{"an active one covers it once it is rewritten: the step stays", "b(X0)=X0; d!=a; b(d)!=a | c(a,X0)=a", []int{0, 0, 0}, `
1 [0] b(X0)=X0
1 [1] d!=a
1 [2] b(d)!=a | c(a,X0)=a
5 [2 0] d!=a | c(a,X0)=a
active [0 1] wait [] found -1 lost false`},
		{"one that waits may cover it", "X0=d | X0!=a; d!=d | b(a)!=a | b(a)=d", []int{1}, `
1 [0] X0=d | X0!=a
1 [1] b(a)!=a | b(a)=d
active [1] wait [0] found -1 lost false`},
		{"resolved, each literal", "X0!=a | X1!=d | c(X0,X1)=a", []int{0}, `
1 [0] X0!=a | X1!=d | c(X0,X1)=a
2 [0] X0!=d | c(a,X0)=a
2 [0] X0!=a | c(X0,d)=a
active [0] wait [1 2] found -1 lost false`},
		{"resolved, then factored, then an active one into it, then it into that", "b(a)!=a | b(d)=d; X0!=a | b(d)=a | c(a,a)=b(d)", []int{0, 0}, `
1 [0] b(a)!=a | b(d)=d
1 [1] X0!=a | b(d)=a | c(a,a)=b(d)
2 [1] b(d)=a | c(a,a)=b(d)
3 [1] X0!=a | c(a,a)=b(d) | c(a,a)!=a
4 [0 1] b(a)!=a | X0!=a | d=a | c(a,a)=b(d)
4 [1 0] X0!=a | c(a,a)=b(d) | b(a)!=a | d=a
active [0 1] wait [2 3 4 5] found -1 lost false`},
		{"active ones in turn, as they came to be active", "c(a,a)=a | b(a)!=a; c(d,d)=d | b(d)!=d; c(c(a,a),c(d,d))!=a", []int{1, 0, 0}, `
1 [0] c(a,a)=a | b(a)!=a
1 [1] c(d,d)=d | b(d)!=d
1 [2] c(c(a,a),c(d,d))!=a
4 [1 2] b(d)!=d | c(c(a,a),d)!=a
4 [0 2] b(a)!=a | c(a,c(d,d))!=a
active [1 0 2] wait [3 4] found -1 lost false`},
		{"into itself, last", "b(d)=a | d!=a; b(b(X0))=d", []int{0, 0}, `
1 [0] b(d)=a | d!=a
1 [1] b(b(X0))=d
4 [0 1] d!=a | b(a)=d
4 [1 1] b(d)=d
active [0 1] wait [2 3] found -1 lost false`},
		{"what waits does not come again", "X0!=a | b(X0)=d; b(a)=d", []int{0}, `
1 [0] X0!=a | b(X0)=d
1 [1] b(a)=d
active [0] wait [1] found -1 lost false`},
		{"what waited, and waits no more, comes again", "b(a)=a; c(b(a),X0)!=d; X1!=a | c(b(X1),X0)!=d", []int{0, 0, 0}, `
1 [0] b(a)=a
1 [1] c(b(a),X0)!=d
1 [2] X0!=a | c(b(X0),X1)!=d
5 [1 0] c(a,X0)!=d
2 [2] c(b(a),X0)!=d
active [0 3 2] wait [4] found -1 lost false`},
		{"what waits may cover what comes", "X0!=a | b(X0)=d; b(X0)=d", []int{0}, `
1 [0] X0!=a | b(X0)=d
1 [1] b(X0)=d
2 [0] b(a)=d
active [0] wait [1 2] found -1 lost false`},
		{"what is active does not come", "b(a)!=d; X0!=a | b(X0)!=d", []int{0, 0}, `
1 [0] b(a)!=d
1 [1] X0!=a | b(X0)!=d
active [0 1] wait [] found -1 lost false`},
		{"what an active one covers does not come", "c(X0,X1)!=b(a); X0!=a | b(X0)!=c(d,d)", []int{0, 0}, `
1 [0] c(X0,X1)!=b(a)
1 [1] X0!=a | b(X0)!=c(d,d)
active [0 1] wait [] found -1 lost false`},
		{"what it covers itself does not come", "X0!=X1 | X1!=X2", []int{0}, `
1 [0] X0!=X1 | X1!=X2
active [0] wait [] found -1 lost false`},
		{"when one is found nothing more comes", "d=a | b(a)!=a; X0!=d", []int{0, 0}, `
1 [0] d=a | b(a)!=a
1 [1] X0!=d
2 [1] []
active [0 1] wait [2] found 2 lost false`},
		{"what is too much is lost", "X0!=b(b(b(b(b(X1))))) | c(X0,X0)=a; d!=a", []int{0}, `
1 [0] X0!=b(b(b(b(b(X1))))) | c(X0,X0)=a
1 [1] d!=a
active [0] wait [1] found -1 lost true`},
		{"it stays lost", "X0!=b(b(b(b(b(X1))))) | c(X0,X0)=a; d!=a", []int{0, 0}, `
1 [0] X0!=b(b(b(b(b(X1))))) | c(X0,X0)=a
1 [1] d!=a
active [0 1] wait [] found -1 lost true`},
		{"what is lost counts when one is found", "c(X0,X0)=a | c(b(X0),X0)!=d; c(b(b(b(b(b(X0))))),X1)!=X2", []int{0, 0}, `
1 [0] c(X0,X0)=a | c(b(X0),X0)!=d
1 [1] c(b(b(b(b(b(X0))))),X1)!=X2
2 [1] []
active [0 1] wait [2] found 2 lost true`},
	} {
		check(t, x.name, pick(t, start(t, x.given), x.places...), x.want)
	}
}

func TestI2PickAtNoPlace(t *testing.T) {
	none, done := start(t, ""), pick(t, start(t, "b(X0)=X0; b(a)!=a; a=d"), 0, 0)
	ended, empty := pick(t, start(t, "a=d"), 0), start(t, "a=d; []; b(a)=a")
	wait := pick(t, start(t, "a!=d | X0=a; a=d; b(a)=d"), 1)
	for _, x := range []struct {
		name string
		p    api.Proof
		n    int
		want api.Errno
	}{
		{"none waits", none, 0, api.ErrDone},
		{"none waits, nor is there such a place", none, -1, api.ErrDone},
		{"none waits any more", ended, 0, api.ErrDone},
		{"one is found", done, 0, api.ErrDone},
		{"one is found, and there is no such place", done, 1, api.ErrDone},
		{"one was given", empty, 0, api.ErrDone},
		{"one was given, and there is no such place", empty, 3, api.ErrDone},
		{"no such place", wait, -1, api.ErrNone},
		{"no such place", wait, len(wait.Wait), api.ErrNone},
		{"no such place", wait, 1<<63 - 1, api.ErrNone},
		{"no such place", wait, -1 << 63, api.ErrNone},
	} {
		old := deepCopy(x.p)
		got, err := prove.Pick(x.p, x.n)
		if err != x.want {
			t.Errorf("%s: at %d the error is %d, not %d", x.name, x.n, err, x.want)
		}
		if !alike(got, old) {
			t.Errorf("%s: at %d all is\n%s\nnot\n%s", x.name, x.n, tell(got), tell(old))
		}
	}
}

func TestI2PickAtTheLastPlace(t *testing.T) {
	p := pick(t, start(t, "a=d; b(a)=a; c(a,a)=a"), 2)
	check(t, "the last place", p, `
1 [0] d=a
1 [1] b(a)=a
1 [2] c(a,a)=a
active [2] wait [0 1] found -1 lost false`)
}

// full picks at the first place until there are MaxSteps.
func full(t *testing.T, given string) api.Proof {
	t.Helper()
	p := start(t, given)
	for len(p.Steps) < api.MaxSteps {
		p = pick(t, p, 0)
	}
	return p
}

// swaps are clauses of which only others of the same size come, by c's
// arguments changing places: nothing is lost until there is no more room.
const swaps = "c(X0,X1)=c(X1,X0); c(c(b(X0),X1),c(b(b(X2)),X3))!=a | c(c(b(X3),X2),c(b(b(X1)),X0))!=d; c(c(b(b(b(X0))),X1),c(b(X2),X3))!=d | c(c(b(X3),X2),c(b(b(X1)),X0))!=d"

func TestI2WhatFindsNoRoomIsLost(t *testing.T) {
	p := start(t, swaps)
	for len(p.Steps) < api.MaxSteps {
		if p.Lost {
			t.Fatalf("it is lost while there is room, of\n%s", tell(p))
		}
		p = pick(t, p, 0)
	}
	p = end(t, p)
	if len(p.Steps) != api.MaxSteps || !p.Lost || p.Found >= 0 {
		t.Errorf("of %d steps it is lost: %t; and found is %d", len(p.Steps), p.Lost, p.Found)
	}
}

// A step that finds no room is none, but the one that was picked waits no
// more; if there is no room for what it is rewritten to, it is not active
// either.
func TestI2NoRoom(t *testing.T) {
	rewritten, active := 0, 0
	for _, given := range []string{
		"c(X0,X1)=c(X1,X0); c(c(X0,X1),X2)=c(X0,c(X1,X2))",
		"c(c(X0,X1),X2)=c(X0,c(X1,X2)); c(a,X0)=X0; c(b(X0),X0)=a",
		"b(X0)=a | b(X0)=d; c(X0,X0)=X0 | X0=a; c(X0,b(X1))=b(X0) | c(X1,X0)=a; b(b(X0))=X0",
	} {
		p := full(t, given)
		var units []api.Clause
		for _, n := range p.Active {
			if simp.Unit(p.Steps[n].Clause) {
				units = append(units, p.Steps[n].Clause)
			}
		}
		for place, it := range p.Wait {
			c := p.Steps[it].Clause
			low, err := simp.Rewrite(c, units)
			got := pick(t, p, place)
			want := deepCopy(p)
			want.Wait = append(want.Wait[:place], want.Wait[place+1:]...)
			switch {
			case err != api.OK:
			case !clause.Same(c, low):
				want.Lost = true
				rewritten++
			case !slices.ContainsFunc(p.Active, func(n int) bool { return simp.Covers(p.Steps[n].Clause, c) }):
				want.Active = append(want.Active, it)
				want.Lost = want.Lost || got.Lost // whether anything came is seen elsewhere
				active++
			}
			if !alike(got, want) {
				t.Fatalf("at %d comes\n%s\nnot\n%s", place, tell(got), tell(want))
			}
		}
	}
	if rewritten < 5 || active < 5 {
		t.Errorf("%d were rewritten, and %d were active", rewritten, active)
	}
}
