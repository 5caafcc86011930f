package term

import (
	"slices"

	"mendproof/api"
)

// Places tells where symbols stand.
func Places(t api.Term) [][]int {
	return addPlaces(nil, nil, t)
}

// addPlaces copies the way for each place, as the ways to arguments are
// written one over the other into the same room.
func addPlaces(out [][]int, way []int, t api.Term) [][]int {
	if t.Var {
		return out
	}
	out = append(out, slices.Clone(way))
	for i, arg := range t.Args {
		out = addPlaces(out, append(way, i), arg)
	}
	return out
}

// At answers what stands at p, and whether there is such a place.
func At(t api.Term, p []int) (api.Term, bool) {
	part := find(&t, p)
	if part == nil {
		return api.Term{}, false
	}
	return own(*part), true
}

// Put answers t with u at p, or t, if there is no such place.
func Put(t api.Term, p []int, u api.Term) api.Term {
	out := own(t)
	if part := find(&out, p); part != nil {
		*part = own(u)
	}
	return out
}

// find answers nil, if there is no such place.
func find(t *api.Term, p []int) *api.Term {
	for _, n := range p {
		args := arguments(*t)
		if n < 0 || n >= len(args) {
			return nil
		}
		t = &args[n]
	}
	return t
}
