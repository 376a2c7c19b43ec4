package heap

import (
	"slices"

	"bailiff/api"
	"bailiff/value"
)

// Reach are the objects that one can come to from some, rising.
func Reach(h api.Heap, from []int) ([]int, api.Errno) {
	if e := Check(h); e != api.OK {
		return nil, e
	}
	if len(from) > api.MaxObjects {
		return nil, api.ErrMany
	}
	for _, n := range from {
		if e := there(h, n); e != api.OK {
			return nil, e
		}
	}
	found := behind(h, from)
	slices.Sort(found)
	return found, api.OK
}

// behind are the objects that one can come to, each once, in the order in which they are found. The list is the worklist as well: what is found comes behind what has yet to be looked at.
func behind(h api.Heap, from []int) []int {
	var work []int
	seen := make([]bool, len(h.Objects))
	add := func(n int) {
		if !seen[n] {
			seen[n] = true
			work = append(work, n)
		}
	}
	for _, n := range from {
		add(n)
	}
	for i := 0; i < len(work); i++ {
		for v := range values(&h.Objects[work[i]]) {
			if value.IsObject(v) {
				add(v.Ref)
			}
		}
	}
	return work
}
