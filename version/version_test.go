package version

import (
	"math"
	"sync"
	"testing"

	"gimmal/api"
)

// noCounts and noPlaces are the nearest numbers beside what may be, those that
// two bytes, or one, would hide, and those at which a difference would wrap round.
var (
	noCounts = []int{0, -1, api.MaxCount + 1, api.MaxCount + 2, -api.MaxCount, 2 * (api.MaxCount + 1), 1<<32 + 1, math.MinInt, math.MaxInt}
	noPlaces = []int{-1, api.Ids, -api.Ids, api.Ids + 1, 2 * api.Ids, 1<<32 + 1, math.MinInt, math.MaxInt}
)

// someCounts and someWriters hold both ends, what stands beside them, and where a byte is full.
var (
	someCounts  = []int{1, 2, 3, 255, 256, 257, 511, 512, 32767, 32768, 65279, 65280, api.MaxCount - 1, api.MaxCount}
	someWriters = []int{0, 1, 2, 127, 128, 200, api.Ids - 2, api.Ids - 1}
)

// rising answers versions that may be, from the eldest to the newest.
func rising() []api.Version {
	var all []api.Version
	for _, count := range someCounts {
		for _, writer := range someWriters {
			all = append(all, api.Version{Count: count, Writer: writer})
		}
	}
	return all
}

// mayNot answers versions that may not be: by the Count, by the Writer, by both.
func mayNot() []api.Version {
	all := []api.Version{{}}
	for _, count := range noCounts {
		for _, writer := range someWriters {
			all = append(all, api.Version{Count: count, Writer: writer})
		}
		for _, writer := range noPlaces {
			all = append(all, api.Version{Count: count, Writer: writer})
		}
	}
	for _, count := range someCounts {
		for _, writer := range noPlaces {
			all = append(all, api.Version{Count: count, Writer: writer})
		}
	}
	return all
}

func newer(t *testing.T, a api.Version, b api.Version, want bool) {
	t.Helper()
	if got, e := Newer(a, b); got != want || e != api.OK {
		t.Errorf("P3.1: Newer(%v, %v): %v, %d, want %v", a, b, got, e, want)
	}
}

func refused(t *testing.T, a api.Version, b api.Version) {
	t.Helper()
	if got, e := Newer(a, b); got || e != api.ErrVersionForm {
		t.Errorf("P3.1, R2: Newer(%v, %v): %v, %d", a, b, got, e)
	}
}

func TestMayOfEachCount(t *testing.T) {
	for count := 1; count <= api.MaxCount; count++ {
		if v := (api.Version{Count: count, Writer: count % api.Ids}); !May(v) {
			t.Fatalf("P3.1: May(%v): false", v)
		}
	}
}

func TestMayOfEachWriter(t *testing.T) {
	for _, count := range someCounts {
		for writer := range api.Ids {
			if v := (api.Version{Count: count, Writer: writer}); !May(v) {
				t.Fatalf("P3.1: May(%v): false", v)
			}
		}
	}
}

func TestMayNot(t *testing.T) {
	for _, v := range mayNot() {
		if May(v) {
			t.Errorf("P3.1: May(%v): true", v)
		}
	}
}

func TestNewerOfSomeVersions(t *testing.T) {
	for _, c := range []struct {
		a, b api.Version
		want bool
	}{
		{api.Version{Count: 2, Writer: 0}, api.Version{Count: 1, Writer: 0}, true},
		{api.Version{Count: 1, Writer: 0}, api.Version{Count: 2, Writer: 0}, false},
		{api.Version{Count: 2, Writer: 0}, api.Version{Count: 1, Writer: 255}, true},
		{api.Version{Count: 1, Writer: 255}, api.Version{Count: 2, Writer: 0}, false},
		{api.Version{Count: 5, Writer: 7}, api.Version{Count: 5, Writer: 6}, true},
		{api.Version{Count: 5, Writer: 6}, api.Version{Count: 5, Writer: 7}, false},
		{api.Version{Count: 5, Writer: 7}, api.Version{Count: 5, Writer: 7}, false},
		{api.Version{Count: 256, Writer: 0}, api.Version{Count: 255, Writer: 255}, true},
		{api.Version{Count: 65535, Writer: 0}, api.Version{Count: 65534, Writer: 255}, true},
		{api.Version{Count: 1, Writer: 1}, api.Version{Count: 1, Writer: 0}, true},
		{api.Version{Count: 1, Writer: 0}, api.Version{Count: 65535, Writer: 255}, false},
		{api.Version{Count: 65535, Writer: 255}, api.Version{Count: 1, Writer: 0}, true},
		// A count does not go around as a place does.
		{api.Version{Count: 1, Writer: 9}, api.Version{Count: 65535, Writer: 9}, false},
		{api.Version{Count: 9, Writer: 0}, api.Version{Count: 9, Writer: 255}, false},
	} {
		newer(t, c.a, c.b, c.want)
	}
}

// TestNewerInARow holds each against each: of two unlike ones exactly one is newer, none is newer than itself.
func TestNewerInARow(t *testing.T) {
	all := rising()
	for i, a := range all {
		for j, b := range all {
			newer(t, a, b, i > j)
		}
	}
}

func TestNewerOfNeighbours(t *testing.T) {
	for count := 1; count < api.MaxCount; count++ {
		elder := api.Version{Count: count, Writer: api.Ids - 1}
		next := api.Version{Count: count + 1, Writer: 0}
		newer(t, next, elder, true)
		newer(t, elder, next, false)
	}
	for writer := 1; writer < api.Ids; writer++ {
		elder := api.Version{Count: 300, Writer: writer - 1}
		next := api.Version{Count: 300, Writer: writer}
		newer(t, next, elder, true)
		newer(t, elder, next, false)
	}
}

func TestNewerRefuses(t *testing.T) {
	wrong := mayNot()
	right := []api.Version{{Count: 1, Writer: 0}, {Count: 300, Writer: 7}, {Count: api.MaxCount, Writer: api.Ids - 1}}
	for _, w := range wrong {
		for _, v := range right {
			refused(t, w, v)
			refused(t, v, w)
		}
		for _, other := range wrong {
			refused(t, w, other)
		}
	}
}

func TestManyCallAtOneTime(t *testing.T) {
	all := rising()
	var done sync.WaitGroup
	for range 8 {
		done.Add(1)
		go func() {
			defer done.Done()
			for i, a := range all {
				b := all[len(all)-1-i]
				if got, e := Newer(a, b); got != (i > len(all)-1-i) || e != api.OK || !May(a) {
					t.Errorf("R5: Newer(%v, %v): %v, %d", a, b, got, e)
				}
			}
		}()
	}
	done.Wait()
}
