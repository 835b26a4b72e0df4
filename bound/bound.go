// Package bound is layer 1: what the triangle tells of distances. See shared/doc/01-bound.md.
package bound

// most is api's MaxDist, written again, as this package stands on nothing.
const most = 1 << 50

// Apart answers how near to each other two things are at least that are a and b away from a third one.
func Apart(a, b int) int {
	a, b = bringIn(a), bringIn(b)
	return max(a-b, b-a)
}

// Sum answers how far from each other they are at most. It may be above any distance: only what is handed in is brought in.
func Sum(a, b int) int {
	return bringIn(a) + bringIn(b)
}

// Ring answers how far a thing that is q away from a third one is at least from one that is from low to high away from that.
func Ring(q, low, high int) int {
	q, low, high = bringIn(q), bringIn(low), bringIn(high)
	// Either order of the ends names the same ring.
	low, high = min(low, high), max(low, high)
	return max(low-q, q-high, 0)
}

// Ball answers how far it is at least from one that is no more than radius away.
func Ball(q, radius int) int {
	return Ring(q, 0, radius)
}

// Cut tells whether a thing that is at least low away is farther than r. Here r stays as it is: below 0 not even what is 0 away is within it.
func Cut(low, r int) bool {
	return bringIn(low) > r
}

// Widen answers low and high so that d is between, too. Low above high says that no distance is known yet.
func Widen(low, high, d int) (int, int) {
	low, high, d = bringIn(low), bringIn(high), bringIn(d)
	if low > high {
		return d, d
	}
	return min(low, d), max(high, d)
}

// bringIn keeps differences and sums of any ints from wrapping round, as no distance is below 0 or above most.
func bringIn(n int) int {
	return min(max(n, 0), most)
}
