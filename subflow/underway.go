package subflow

import (
	"cmp"
	"slices"

	"braid/api"
)

// underway is items by their numbers: those that were sent, and neither acknowledged nor lost.
type underway map[uint64]api.Item

// list is the items that are wanted, in the order of numbers.
func (u underway) list(wanted func(api.Item) bool) []api.Item {
	var l []api.Item
	for _, x := range u {
		if wanted(x) {
			l = append(l, x)
		}
	}
	slices.SortFunc(l, func(a, b api.Item) int { return cmp.Compare(a.Num, b.Num) })
	return l
}

// take is the same, and these are under way no more.
func (u underway) take(wanted func(api.Item) bool) []api.Item {
	l := u.list(wanted)
	for _, x := range l {
		delete(u, x.Num)
	}
	return l
}

func every(api.Item) bool { return true }
