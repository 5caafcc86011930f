package prove_test

import (
	"reflect"
	"slices"
	"testing"

	"mendproof/api"
	"mendproof/prove"
)

// searches are such as Pick finds: at their beginnings, and further on.
func searches(t *testing.T) []api.Proof {
	t.Helper()
	out := []api.Proof{start(t, ""), start(t, "a=d; []")}
	for i, l := range allMixed() {
		next := counter(uint32(i))
		p := start(t, texts(l))
		for range 8 {
			out = append(out, p)
			if p.Found >= 0 || len(p.Wait) == 0 {
				break
			}
			p = pick(t, p, next(len(p.Wait)))
		}
	}
	return out
}

func TestZ2NewOnlyReads(t *testing.T) {
	for _, l := range allMixed() {
		s, given := roomyList(abcd, 1), roomyClauses(l)
		got, err := prove.New(s, given)
		if err != api.OK || !alike(got, start(t, texts(l))) {
			t.Fatalf("New(%s) is %d,\n%s", texts(l), err, tell(got))
		}
		want := deepCopy(got)
		if !slices.Equal(s, abcd) || !markedList(s, 1) || texts(given) != texts(l) || !markedList(given, nil) || slices.ContainsFunc(given, func(c api.Clause) bool { return !markedClause(c) }) {
			t.Fatalf("%s was changed", texts(l))
		}
		spoilList(s, 99)
		for _, c := range given {
			spoilClause(c)
		}
		spoilList(given, nil)
		if !alike(got, want) {
			t.Fatalf("of %s something was kept: %s", texts(l), tell(got))
		}
		s, given = roomyList(abcd, 1), roomyClauses(l)
		got, _ = prove.New(s, given)
		spoil(got)
		if !slices.Equal(s, abcd) || !markedList(s, 1) || texts(given) != texts(l) {
			t.Fatalf("%s changes with the search", texts(l))
		}
	}
}

func TestZ2OwnAndPickOnlyRead(t *testing.T) {
	for _, p := range searches(t) {
		for _, n := range []int{0, len(p.Wait) - 1, -1} {
			x := roomy(p)
			got, err := prove.Pick(x, n)
			copied := prove.Own(x)
			if !alike(x, p) || !marked(x) {
				t.Fatalf("Pick at %d or Own changed\n%s", n, tell(p))
			}
			want, wantErr := prove.Pick(p, n)
			if !alike(got, want) || err != wantErr || !alike(copied, p) {
				t.Fatalf("Pick at %d or Own looked at spare room, of\n%s", n, tell(p))
			}
			want = deepCopy(want)
			spoil(x)
			if !alike(got, want) || !alike(copied, p) {
				t.Fatalf("Pick at %d or Own kept something, of\n%s", n, tell(p))
			}
			x = roomy(p)
			got, _ = prove.Pick(x, n)
			spoil(got)
			spoil(prove.Own(x))
			if !alike(x, p) || !marked(x) {
				t.Fatalf("with what comes of it at %d there changes\n%s", n, tell(p))
			}
		}
	}
}

// apart spoils one list of a search after the other: each must still be as
// it was.
func apart(t *testing.T, p api.Proof) {
	t.Helper()
	old := deepCopy(p)
	for i, x := range p.Steps {
		if !reflect.DeepEqual(copyList(x.From), old.Steps[i].From) || !reflect.DeepEqual(copyClause(x.Clause), old.Steps[i].Clause) {
			t.Fatalf("step %d changes with those ahead of it, of\n%s", i, tell(old))
		}
		spoilStep(x)
	}
	for i, l := range [][]int{p.Active, p.Wait, p.Sig} {
		if want := [][]int{old.Active, old.Wait, old.Sig}[i]; !slices.Equal(l, want) {
			t.Fatalf("list %d changes with others, of\n%s", i, tell(old))
		}
		spoilList(l, 99)
	}
}

func TestZ2ListsOfOneAnswerShareNoMemory(t *testing.T) {
	for _, p := range searches(t) {
		apart(t, prove.Own(p))
		got, _ := prove.Pick(p, 0)
		apart(t, got)
	}
	for _, l := range allMixed() {
		apart(t, start(t, texts(l)))
	}
}

// One list of clauses may have the same clause more than once.
func TestZ2OneClauseTwice(t *testing.T) {
	c := parseAll(t, "c(X0,b(X1))=a | b(X0)!=d")[0]
	p, err := prove.New(abcd, []api.Clause{c, c, c})
	if err != api.OK {
		t.Fatalf("New has the error %d", err)
	}
	apart(t, p)
}

func TestZ5TheSameEachTime(t *testing.T) {
	for _, p := range searches(t)[:200] {
		got, err := prove.Pick(p, 0)
		again, errAgain := prove.Pick(p, 0)
		if !alike(got, again) || err != errAgain {
			t.Fatalf("Pick differs, of\n%s", tell(p))
		}
	}
}

func TestZ3NilAndEmpty(t *testing.T) {
	bare := func(none bool) api.Proof {
		if none {
			return api.Proof{Sig: abcd, Found: -1}
		}
		return api.Proof{Sig: abcd, Steps: []api.Step{}, Active: []int{}, Wait: []int{}, Found: -1}
	}
	for _, p := range []api.Proof{bare(true), bare(false)} {
		got, err := prove.Pick(p, 0)
		if err != api.ErrDone || !alike(got, p) || !alike(prove.Own(p), p) {
			t.Errorf("where none waits there comes %d,\n%s", err, tell(got))
		}
	}
	for _, c := range []api.Clause{nil, {}} {
		p, err := prove.New(abcd, []api.Clause{c})
		if err != api.OK || p.Found != 0 {
			t.Errorf("of an empty clause there comes %d,\n%s", err, tell(p))
		}
	}
	a := api.Term{Args: []api.Term{}}
	p, err := prove.New(abcd, []api.Clause{{is(a, f(1, a))}, {not(f(1, f(0)), f(0))}})
	if err != api.OK {
		t.Fatalf("New has the error %d", err)
	}
	check(t, "of a without arguments", pick(t, p, 0, 0), `
1 [0] b(a)=a
1 [1] b(a)!=a
5 [1 0] []
active [0] wait [] found 2 lost false`)
}

// These are no searches: only that nothing panics is seen to, but for what is
// said of too much.
func TestZ1NoSearches(t *testing.T) {
	steps := []api.Step{
		{Rule: api.RuleInput, From: []int{0}, Clause: api.Clause{is(chain(13, f(0)), f(0))}},
		{Rule: 99, From: []int{7, -7}, Clause: api.Clause{is(f(1), f(0, v(0))), not(f(-1), f(60, v(-3)))}},
		{},
		{Clause: api.Clause{is(v(0), v(1)), is(v(2), v(3)), is(v(4), v(5)), is(v(6), v(7)), is(f(0), f(1))}},
		{Clause: api.Clause{is(f(1, v(1<<62)), f(1<<62)), not(v(0), v(9))}},
		{Clause: api.Clause{is(api.Term{Var: true, Args: []api.Term{f(0)}}, f(1, v(0)))}},
	}
	all := []int{0, 1, 2, 3, 4, 5, -1, 6, 99, 0}
	for _, p := range []api.Proof{
		{},
		{Wait: all},
		{Wait: all, Found: -1},
		{Active: all, Wait: all, Found: -1 << 63},
		{Steps: steps, Wait: all, Found: -1},
		{Steps: steps, Active: all, Wait: all, Found: -1},
		{Steps: steps, Active: []int{0, 1, 4, 5}, Wait: all, Found: -7, Lost: true},
		{Steps: make([]api.Step, 500), Active: []int{8}, Wait: all, Found: -1},
	} {
		prove.Own(p)
		for n := -1; n <= len(all); n++ {
			prove.Pick(p, n)
		}
	}
	got := pick(t, api.Proof{Sig: abcd, Steps: steps[:1], Wait: []int{4, 0}, Found: -1}, 1)
	if want := (api.Proof{Sig: abcd, Steps: steps[:1], Wait: []int{4}, Found: -1, Lost: true}); !alike(got, want) {
		t.Errorf("of what is too much comes\n%s", tell(got))
	}
}
