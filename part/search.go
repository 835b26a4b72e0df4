package part

import (
	"math"

	"waywiser/api"
)

// search is what is known while it is sought which two things are promoted.
type search struct {
	d      [][]int
	more   []int
	policy int
	// nears has what was asked of nearest: each thing is one of many pairs.
	nears [][]int
}

// wide answers the greater one of both Radii, if the things are divided by two.
func (s *search) wide(a, b int) int {
	toA, toB := s.divide(a, b)
	return max(Radius(s.d, s.more, a, toA), Radius(s.d, s.more, b, toB))
}

// divide answers what Divide does.
func (s *search) divide(a, b int) ([]int, []int) {
	if s.policy == api.Plane {
		return byPlane(s.d, a, b)
	}
	return byTurns(a, b, s.near(a), s.near(b))
}

// near answers what nearest does.
func (s *search) near(p int) []int {
	if s.nears[p] == nil {
		s.nears[p] = nearest(s.d, p)
	}
	return s.nears[p]
}

// floor answers how wide any two are at least: each thing has to go to something.
func (s *search) floor() int {
	floor := math.MinInt
	for i := range s.d {
		least := math.MaxInt
		for p := range s.d {
			least = min(least, reach(s.d, s.more, p, i))
		}
		floor = max(floor, least)
	}
	return floor
}

// misses tells whether there is a thing that makes two as wide as that, to whichever of them it goes. Most pairs are told to be too wide by few things, long ahead of being divided.
func (s *search) misses(a, b, wide int) bool {
	for i := range s.d {
		if reach(s.d, s.more, a, i) >= wide && reach(s.d, s.more, b, i) >= wide {
			return true
		}
	}
	return false
}
