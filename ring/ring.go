// Package ring: see DOC.md, chapter 1.
package ring

import (
	"gimmal/api"
)

// Distance: chapter 1.
func Distance(a int, b int) (int, api.Errno) {
	if !isPlace(a) || !isPlace(b) {
		return 0, api.ErrRingForm
	}
	return upwards(a, b), api.OK
}

// Within: chapter 1.
func Within(a int, x int, b int) (bool, api.Errno) {
	if !isPlace(a) || !isPlace(x) || !isPlace(b) {
		return false, api.ErrRingForm
	}
	// From a place to itself is once around, so that x may even be a.
	if a == b {
		return true, api.OK
	}
	far := upwards(a, x)
	return far > 0 && far <= upwards(a, b), api.OK
}

func isPlace(n int) bool {
	return n >= 0 && n < api.Ids
}

// upwards holds for places alone: only there one more ring makes b-a at least 0.
func upwards(a int, b int) int {
	return (b - a + api.Ids) % api.Ids
}
