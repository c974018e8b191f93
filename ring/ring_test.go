package ring

import (
	"math"
	"sync"
	"testing"

	"gimmal/api"
)

// noPlaces are the nearest numbers beside the ring, those that a place's byte
// would hide, and those at which a difference would wrap round.
var noPlaces = []int{-1, api.Ids, -api.Ids, api.Ids + 1, 2 * api.Ids, math.MinInt, math.MaxInt, math.MinInt + 1, math.MaxInt - 1}

// steps goes from a upwards, place by place, till it is at b.
func steps(a int, b int) int {
	n := 0
	for at := a; at != b; n++ {
		at++
		if at == api.Ids {
			at = 0
		}
	}
	return n
}

func TestDistanceOfSomePlaces(t *testing.T) {
	for _, c := range []struct{ a, b, want int }{
		{0, 0, 0},
		{255, 255, 0},
		{0, 1, 1},
		{1, 0, 255},
		{0, 255, 255},
		{255, 0, 1},
		{10, 200, 190},
		{200, 10, 66},
		{0, 128, 128},
		{128, 0, 128},
	} {
		if got, e := Distance(c.a, c.b); got != c.want || e != api.OK {
			t.Errorf("P1.1: Distance(%d, %d): %d, %d, want %d", c.a, c.b, got, e, c.want)
		}
	}
}

func TestDistanceOfAllPlaces(t *testing.T) {
	for a := range api.Ids {
		for b := range api.Ids {
			if got, e := Distance(a, b); got != steps(a, b) || e != api.OK {
				t.Fatalf("P1.1: Distance(%d, %d): %d, %d, want %d", a, b, got, e, steps(a, b))
			}
		}
	}
}

func TestDistanceOfNoPlaces(t *testing.T) {
	refused := func(a int, b int) {
		if got, e := Distance(a, b); got != 0 || e != api.ErrRingForm {
			t.Errorf("P1.1, R2: Distance(%d, %d): %d, %d", a, b, got, e)
		}
	}
	for _, n := range noPlaces {
		for _, place := range []int{0, 1, 128, 255} {
			refused(n, place)
			refused(place, n)
		}
		for _, other := range noPlaces {
			refused(n, other)
		}
	}
}

func TestWithinSomePlaces(t *testing.T) {
	for _, c := range []struct {
		a, x, b int
		want    bool
	}{
		{10, 11, 20, true},
		{10, 20, 20, true},
		{10, 10, 20, false},
		{10, 21, 20, false},
		{10, 9, 20, false},
		{250, 255, 5, true},
		{250, 0, 5, true},
		{250, 5, 5, true},
		{250, 6, 5, false},
		{250, 250, 5, false},
		{250, 249, 5, false},
		{255, 0, 0, true},
		{255, 255, 0, false},
		{0, 255, 255, true},
		{0, 0, 255, false},
		{7, 7, 7, true},
		{7, 8, 7, true},
		{7, 6, 7, true},
	} {
		if got, e := Within(c.a, c.x, c.b); got != c.want || e != api.OK {
			t.Errorf("P1.1: Within(%d, %d, %d): %v, %d, want %v", c.a, c.x, c.b, got, e, c.want)
		}
	}
}

// TestWithinAllPlaces turns each a to 0: there the part is 1 to b in plain numbers.
func TestWithinAllPlaces(t *testing.T) {
	for a := range api.Ids {
		for far := range api.Ids {
			b := (a + far) % api.Ids
			for step := range api.Ids {
				x := (a + step) % api.Ids
				want := far == 0 || (1 <= step && step <= far)
				if got, e := Within(a, x, b); got != want || e != api.OK {
					t.Fatalf("P1.1: Within(%d, %d, %d): %v, %d, want %v", a, x, b, got, e, want)
				}
			}
		}
	}
}

func TestWithinNoPlaces(t *testing.T) {
	refused := func(a int, x int, b int) {
		if got, e := Within(a, x, b); got || e != api.ErrRingForm {
			t.Errorf("P1.1, R2: Within(%d, %d, %d): %v, %d", a, x, b, got, e)
		}
	}
	for _, n := range noPlaces {
		for _, place := range []int{0, 1, 128, 255} {
			refused(n, place, place)
			refused(place, n, place)
			refused(place, place, n)
			refused(place, n, n)
			refused(n, place, n)
			refused(n, n, place)
			refused(place, n, (place+100)%api.Ids)
		}
		refused(n, n, n)
	}
}

func TestManyCallAtOneTime(t *testing.T) {
	var all sync.WaitGroup
	for a := range 16 {
		all.Add(1)
		go func() {
			defer all.Done()
			for b := range api.Ids {
				if got, e := Distance(a, b); got != steps(a, b) || e != api.OK {
					t.Errorf("R5: Distance(%d, %d): %d, %d", a, b, got, e)
				}
				if got, e := Within(a, b, 100); got != (a < b && b <= 100) || e != api.OK {
					t.Errorf("R5: Within(%d, %d, 100): %v, %d", a, b, got, e)
				}
			}
		}()
	}
	all.Wait()
}
