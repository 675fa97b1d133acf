package impl

import "slices"

// PointsMax is the greatest number of points of a ring.
const PointsMax = 7

// pointsMin is the least number of points of a ring.
const pointsMin = 3

// noPoint fills the places behind the last point.
// It is no point, so that rings with different numbers of points are different arrays.
const noPoint = -1

// ring has all points, each one once, as they come going round.
// It begins with any one of them while it only tells a ring, and with 0 once it is one.
type ring [PointsMax]int

// RingIn reports whether a list is a ring.
func RingIn(a []int) bool {
	_, ok := readRing(a)
	return ok
}

// RingOf returns the ring that a list tells, and true.
func RingOf(a []int) ([]int, bool) {
	r, ok := readTelling(a)
	if !ok {
		return nil, false
	}
	return r.cut(0).list(), true
}

// RingBack returns the ring gone round the other way, and true.
func RingBack(a []int) ([]int, bool) {
	r, ok := readRing(a)
	if !ok {
		return nil, false
	}
	return r.back().list(), true
}

// RingCut returns the list that tells the ring and begins with a point, and true.
func RingCut(a []int, x int) ([]int, bool) {
	r, ok := readRing(a)
	if !ok || !r.has(x) {
		return nil, false
	}
	return r.cut(x).list(), true
}

// RingNext returns the point behind a point, and true.
func RingNext(a []int, x int) (int, bool) {
	r, ok := readRing(a)
	if !ok || !r.has(x) {
		return 0, false
	}
	return r.next(x), true
}

// RingFrom returns the points that come behind one point and ahead of another one going round, in order, and true: all other points if both are the same.
func RingFrom(a []int, x int, y int) ([]int, bool) {
	r, ok := readRing(a)
	if !ok || !r.has(x) || !r.has(y) {
		return nil, false
	}
	return r.between(x, y), true
}

// RingSteps returns the number of steps from one point to another one going round, and true: 0 for the same point.
func RingSteps(a []int, x int, y int) (int, bool) {
	r, ok := readRing(a)
	if !ok || !r.has(x) || !r.has(y) {
		return 0, false
	}
	return r.steps(x, y), true
}

// RingNamed returns the ring in which each point p of a ring is called by the number that a list has at the place p, from 0 on, this having each point once, and true.
func RingNamed(a []int, p []int) ([]int, bool) {
	r, isRing := readRing(a)
	names, isTelling := readTelling(p)
	if !isRing || !isTelling || len(a) != len(p) {
		return nil, false
	}
	return r.named(names).list(), true
}

// RingNumber returns the number of a ring, and true.
func RingNumber(a []int) (int, bool) {
	r, ok := readRing(a)
	if !ok {
		return 0, false
	}
	return r.number(), true
}

// RingBy returns the ring of n points with a number, and true.
func RingBy(n int, number int) ([]int, bool) {
	count, ok := RingCount(n)
	if !ok || number < 0 || number >= count {
		return nil, false
	}
	return numberedRing(n, number).list(), true
}

// RingCount returns the number of rings of n points, and true: the factorial of n - 1.
func RingCount(n int) (int, bool) {
	if !sizeIn(n) {
		return 0, false
	}
	return factorial(n - 1), true
}

// RingDrop returns the ring of one point less that comes by leaving the greatest point out of one of four points at least, and true.
func RingDrop(a []int) ([]int, bool) {
	r, ok := readRing(a)
	if !ok || !sizeIn(len(a)-1) {
		return nil, false
	}
	return r.drop().list(), true
}

// RingPut returns the ring of one point more that has the new greatest point just behind a point of a ring, and true.
func RingPut(a []int, x int) ([]int, bool) {
	r, ok := readRing(a)
	if !ok || !r.has(x) || !sizeIn(len(a)+1) {
		return nil, false
	}
	return r.put(x).list(), true
}

// sizeIn reports whether a ring may have n points.
func sizeIn(n int) bool {
	return n >= pointsMin && n <= PointsMax
}

// factorial returns the factorial of n, for n from 0 to PointsMax.
func factorial(n int) int {
	product := 1
	for i := 2; i <= n; i++ {
		product *= i
	}
	return product
}

// pointsIn reports whether a list has none but points of n, and none of them twice.
func pointsIn(n int, list []int) bool {
	for i, x := range list {
		if x < 0 || x >= n || slices.Contains(list[:i], x) {
			return false
		}
	}
	return true
}

// readTelling reads a list of all points, each one once, that begins with any one.
func readTelling(list []int) (ring, bool) {
	r := emptyRing()
	if !sizeIn(len(list)) || !pointsIn(len(list), list) {
		return r, false
	}
	copy(r[:], list)
	return r, true
}

// readRing reads a ring: a list that beginning with 0 leaves as it is.
func readRing(list []int) (ring, bool) {
	r, ok := readTelling(list)
	if ok && r == r.cut(0) {
		return r, true
	}
	return emptyRing(), false
}

// readTwo reads two rings of as many points.
func readTwo(a []int, b []int) (ring, ring, bool) {
	r, isFirst := readRing(a)
	s, isSecond := readRing(b)
	return r, s, isFirst && isSecond && len(a) == len(b)
}

// numberedRing returns the ring of n points with a number, for a number that there is.
func numberedRing(n int, number int) ring {
	r := emptyRing()
	left := make([]int, n)
	for i := range left {
		left[i] = i
	}
	// With 0 ahead, the first n - 1 factorial numbers are just those of the rings, so 0 needs no case of its own.
	for i := range n {
		same := factorial(n - 1 - i)
		place := number / same
		number %= same
		r[i] = left[place]
		left = slices.Delete(left, place, place+1)
	}
	return r
}

// allRings returns all rings of n points, in the order of lists.
func allRings(n int) []ring {
	rings := make([]ring, factorial(n-1))
	for number := range rings {
		rings[number] = numberedRing(n, number)
	}
	return rings
}

// emptyRing returns a ring without points, to be filled.
func emptyRing() ring {
	var r ring
	for i := range r {
		r[i] = noPoint
	}
	return r
}

// list returns the points in new memory.
func (r ring) list() []int {
	return slices.Clone(r[:r.size()])
}

// size returns the number of points.
func (r ring) size() int {
	n := 0
	for n < PointsMax && r[n] != noPoint {
		n++
	}
	return n
}

// has reports whether a number is a point of the ring.
func (r ring) has(x int) bool {
	return x >= 0 && x < r.size()
}

// place returns where a point of the ring stands, from 0 on.
func (r ring) place(x int) int {
	return slices.Index(r[:], x)
}

// cut returns the ring beginning with a point of it.
func (r ring) cut(x int) ring {
	n, start := r.size(), r.place(x)
	turned := r
	for i := range n {
		turned[i] = r[(start+i)%n]
	}
	return turned
}

// back returns the ring gone round the other way, from the same first point.
func (r ring) back() ring {
	n := r.size()
	turned := r
	for i := 1; i < n; i++ {
		turned[i] = r[n-i]
	}
	return turned
}

// next returns the point behind a point.
func (r ring) next(x int) int {
	return r[(r.place(x)+1)%r.size()]
}

// steps returns the number of steps from one point to another one going round.
func (r ring) steps(x int, y int) int {
	n := r.size()
	return (r.place(y) - r.place(x) + n) % n
}

// between returns the points behind one point and ahead of another one, in new memory.
func (r ring) between(x int, y int) []int {
	end := r.steps(x, y)
	if x == y {
		end = r.size()
	}
	return r.cut(x).list()[1:end]
}

// named returns the ring in which each point is called by what stands at its place in names.
func (r ring) named(names ring) ring {
	called := r
	for i := range r.size() {
		called[i] = names[r[i]]
	}
	return called.cut(0)
}

// number returns how many rings of as many points come ahead in the order of lists.
func (r ring) number() int {
	n := r.size()
	number := 0
	for i, x := range r[:n] {
		lesser := 0
		for _, y := range r[i+1 : n] {
			if y < x {
				lesser++
			}
		}
		number += lesser * factorial(n-1-i)
	}
	return number
}

// drop returns the ring without its greatest point.
func (r ring) drop() ring {
	greatest := r.size() - 1
	place := r.place(greatest)
	copy(r[place:], r[place+1:])
	r[PointsMax-1] = noPoint
	return r
}

// put returns the ring with a new greatest point just behind a point.
func (r ring) put(x int) ring {
	n, place := r.size(), r.place(x)+1
	copy(r[place+1:], r[place:])
	r[place] = n
	return r
}
