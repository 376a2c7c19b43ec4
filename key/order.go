package key

import (
	"sort"

	"bailiff/api"
)

// row is a key with its rank, which is worked out once a key, and not once a comparison.
type row struct {
	rank int
	key  api.Key
}

// Order is keys in the order in which an object tells them: indices rising, then other strings, then symbols. The sort is stable, since strings and symbols stay as they came.
func Order(l []api.Key) []api.Key {
	rows := make([]row, len(l))
	for i, k := range l {
		rows[i] = row{rank(k), k}
	}
	less := func(i, j int) bool { return rows[i].rank < rows[j].rank }
	sort.SliceStable(rows, less)
	out := make([]api.Key, len(rows))
	for i, r := range rows {
		out[i] = r.key
	}
	return out
}

// rank is an index' number; all other strings have one rank behind these, and all symbols one behind that.
func rank(k api.Key) int {
	n, is := Index(k)
	switch {
	case is:
		return n
	case symbol(k):
		return api.MaxLength + 1
	}
	return api.MaxLength
}
