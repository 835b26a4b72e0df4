package part

import (
	"cmp"
	"slices"
)

// Whose a thing is, while two take things by turns.
const (
	nobodys = iota
	firsts
	seconds
)

// byPlane answers which things are no farther from a than from b, and which are.
func byPlane(d [][]int, a, b int) ([]int, []int) {
	var toA, toB []int
	for i := range d {
		// The two themselves stay with themselves, however far they are told to be.
		if i == a || i != b && far(d, a, i) <= far(d, b, i) {
			toA = append(toA, i)
		} else {
			toB = append(toB, i)
		}
	}
	return toA, toB
}

// byTurns answers which things are a's, and which b's, if both take them by turns, of all things as they are near to each.
func byTurns(a, b int, nearA, nearB []int) ([]int, []int) {
	whose := make([]int, len(nearA))
	whose[a], whose[b] = firsts, seconds
	for turn := range len(whose) - 2 {
		if turn%2 == 0 {
			nearA = take(whose, nearA, firsts)
		} else {
			nearB = take(whose, nearB, seconds)
		}
	}
	return those(whose, firsts), those(whose, seconds)
}

// take makes the nearest one that is nobody's somebody's, and answers what is still to be looked at.
func take(whose, near []int, by int) []int {
	for at, i := range near {
		if whose[i] == nobodys {
			whose[i] = by
			return near[at+1:]
		}
	}
	return nil
}

// those answers what is somebody's, rising.
func those(whose []int, by int) []int {
	var l []int
	for i, is := range whose {
		if is == by {
			l = append(l, i)
		}
	}
	return l
}

// nearest answers all things, those that are nearer to one of them first.
func nearest(d [][]int, p int) []int {
	l := make([]int, len(d))
	for i := range l {
		l[i] = i
	}
	slices.SortFunc(l, func(i, j int) int {
		return cmp.Or(cmp.Compare(far(d, p, i), far(d, p, j)), cmp.Compare(i, j))
	})
	return l
}
