package term_test

import (
	"reflect"
	"slices"
	"testing"

	"mendproof/api"
	"mendproof/term"
)

func TestA3Places(t *testing.T) {
	for _, x := range []struct {
		text string
		want [][]int
	}{
		{"X0", nil},
		{"a", [][]int{{}}},
		{"b(X0)", [][]int{{}}},
		{"b(a)", [][]int{{}, {0}}},
		{"c(X0,a)", [][]int{{}, {1}}},
		{"c(a,b(X0))", [][]int{{}, {0}, {1}}},
		{"c(c(a,b(X0)),c(X1,b(a)))", [][]int{{}, {0}, {0, 0}, {0, 1}, {1}, {1, 1}, {1, 1, 0}}},
	} {
		got := term.Places(parse(t, x.text))
		if !slices.EqualFunc(got, x.want, slices.Equal[[]int]) {
			t.Errorf("Places(%s) is %v, not %v", x.text, got, x.want)
		}
	}
}

func TestA3PlacesShareNoMemory(t *testing.T) {
	// Deep enough that a list which grows has spare room for a way's next step.
	u := parse(t, "c(a,c(a,c(a,c(a,c(a,a)))))")
	want := term.Places(u)
	got := term.Places(u)
	for i := range got {
		room := got[i][:cap(got[i])]
		for j := range room {
			room[j] = 70 + i
		}
	}
	for i := range got {
		if len(got[i]) != len(want[i]) {
			t.Fatalf("place %d is %v", i, got[i])
		}
		for _, n := range got[i] {
			if n != 70+i {
				t.Errorf("place %d was changed with another one: %v", i, got[i])
			}
		}
	}
}

func TestA3AtAndPut(t *testing.T) {
	for _, x := range []struct {
		text string
		p    []int
		at   string // empty: there is none
		put  string
	}{
		{"a", nil, "a", "b(X2)"},
		{"a", []int{}, "a", "b(X2)"},
		{"X0", nil, "X0", "b(X2)"},
		{"a", []int{0}, "", "a"},
		{"X0", []int{0}, "", "X0"},
		{"b(a)", []int{0}, "a", "b(b(X2))"},
		{"b(a)", []int{1}, "", "b(a)"},
		{"b(a)", []int{-1}, "", "b(a)"},
		{"b(a)", []int{0, 0}, "", "b(a)"},
		{"c(a,b(X0))", []int{0}, "a", "c(b(X2),b(X0))"},
		{"c(a,b(X0))", []int{1}, "b(X0)", "c(a,b(X2))"},
		{"c(a,b(X0))", []int{1, 0}, "X0", "c(a,b(b(X2)))"},
		{"c(a,b(X0))", []int{1, 0, 0}, "", "c(a,b(X0))"},
		{"c(a,b(X0))", []int{1, 1}, "", "c(a,b(X0))"},
		{"c(a,b(X0))", []int{2}, "", "c(a,b(X0))"},
		{"c(a,b(X0))", []int{-1, 0}, "", "c(a,b(X0))"},
		{"c(a,b(X0))", []int{1 << 62}, "", "c(a,b(X0))"},
		// What stands behind a list is no part of the way.
		{"c(a,b(X0))", []int{1, 0}[:1], "b(X0)", "c(a,b(X2))"},
	} {
		u := parse(t, x.text)
		at, ok := term.At(u, x.p)
		if ok != (x.at != "") || ok && term.Text(at) != x.at || !ok && !alike(at, api.Term{}) {
			t.Errorf("At(%s, %v) is %v, %t", x.text, x.p, at, ok)
		}
		if put := term.Text(term.Put(u, x.p, f(1, v(2)))); put != x.put {
			t.Errorf("Put(%s, %v, ..) is %s, not %s", x.text, x.p, put, x.put)
		}
	}
}

func TestA3AVariableHasNoPlaceWithin(t *testing.T) {
	wrong := api.Term{Var: true, Args: []api.Term{f(0)}}
	if at, ok := term.At(wrong, []int{0}); ok || !alike(at, api.Term{}) {
		t.Errorf("At is %v, %t", at, ok)
	}
	if got := term.Put(wrong, []int{0}, v(1)); !alike(got, wrong) {
		t.Errorf("Put is %v", got)
	}
	if got := term.Places(wrong); len(got) != 0 {
		t.Errorf("Places is %v", got)
	}
}

// ways are all lists of numbers below 3 that are at most so long.
func ways(long int) [][]int {
	out := [][]int{nil}
	if long == 0 {
		return out
	}
	for _, way := range ways(long - 1) {
		for n := range 3 {
			out = append(out, append([]int{n}, way...))
		}
	}
	return out
}

func TestA3WhatIsPutIsThere(t *testing.T) {
	u := f(2, v(1), f(0))
	for size := 1; size <= 5; size++ {
		for _, x := range allTerms(size) {
			symbols := 0
			for _, p := range ways(4) {
				at, ok := term.At(x, p)
				got := term.Put(x, p, u)
				if !ok {
					if !alike(got, x) {
						t.Fatalf("Put(%v, %v) is %v", x, p, got)
					}
					continue
				}
				if !at.Var {
					symbols++
				}
				back, ok := term.At(got, p)
				if !ok || !alike(back, u) || term.Size(got) != term.Size(x)-term.Size(at)+3 {
					t.Fatalf("Put(%v, %v) is %v", x, p, got)
				}
				if again := term.Put(got, p, at); !alike(again, x) {
					t.Fatalf("%v, with what was there put back at %v, is %v", x, p, again)
				}
			}
			checkPlaces(t, x, symbols)
		}
	}
}

// checkPlaces: each place is a symbol's, all of them are told, and they rise,
// as a way is ahead of those that go on from it.
func checkPlaces(t *testing.T, x api.Term, symbols int) {
	t.Helper()
	places := term.Places(x)
	if len(places) != symbols {
		t.Fatalf("Places(%v) has %d, not %d", x, len(places), symbols)
	}
	for i, p := range places {
		if at, ok := term.At(x, p); !ok || at.Var {
			t.Fatalf("Places(%v) has %v", x, p)
		}
		if i > 0 && slices.Compare(places[i-1], p) >= 0 {
			t.Fatalf("Places(%v) has %v ahead of %v", x, places[i-1], p)
		}
	}
}

func TestZ2WhatIsHandedInIsOnlyRead(t *testing.T) {
	for _, x := range someTerms() {
		u, w := roomy(x), roomy(f(2, v(1), f(0)))
		p := []int{1, 0, 0, 8}
		for n := range p {
			term.At(u, p[:n])
			term.Put(u, p[:n], w)
		}
		term.Same(u, w)
		term.Size(u)
		term.Vars(nil, u)
		term.Wrong(abc, u)
		term.Text(u)
		term.Places(u)
		if !alike(u, x) || !marked(u) || !marked(w) || !alike(w, f(2, v(1), f(0))) || !reflect.DeepEqual(p, []int{1, 0, 0, 8}) {
			t.Fatalf("%v was changed", x)
		}
	}
}

func TestZ2AnswersShareNoMemory(t *testing.T) {
	for _, p := range [][]int{nil, {0}, {1}, {0, 1}, {5}} {
		x, u := roomy(parse(t, "c(c(a,b(X0)),b(b(a)))")), roomy(parse(t, "c(b(X1),a)"))
		oldX, oldU := deepCopy(x), deepCopy(u)
		at, _ := term.At(x, p)
		put := term.Put(x, p, u)
		spoil(at)
		spoil(put)
		if !alike(x, oldX) || !alike(u, oldU) || !marked(x) || !marked(u) {
			t.Errorf("at %v what was handed in changes with the answer", p)
		}
		at, _ = term.At(x, p)
		put = term.Put(x, p, u)
		oldAt, oldPut := deepCopy(at), deepCopy(put)
		spoil(x)
		spoil(u)
		if !alike(at, oldAt) || !alike(put, oldPut) {
			t.Errorf("at %v the answer changes with what was handed in", p)
		}
	}
}

func TestZ1DeepTerms(t *testing.T) {
	const many = 1<<16 - 1
	u := chain(many, v(2))
	way := make([]int, many)
	if got := term.Size(u); got != many+1 {
		t.Errorf("Size is %d", got)
	}
	if got := term.Vars(nil, u); !slices.Equal(got, []int{2}) {
		t.Errorf("Vars is %v", got)
	}
	if at, ok := term.At(u, way); !ok || !alike(at, v(2)) {
		t.Errorf("At is %v, %t", at, ok)
	}
	if got := term.Put(u, way, v(3)); !term.Same(got, chain(many, v(3))) {
		t.Errorf("Put does not put it there")
	}
}
