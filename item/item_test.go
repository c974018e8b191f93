package item

import (
	"math"
	"sync"
	"testing"

	"gimmal/api"
)

// noBytes and noCounts are the nearest numbers beside what may be, those that one
// byte, or two, would hide, and those at which a difference would wrap round.
var (
	noBytes  = []int{-1, 256, 257, -255, -256, 511, 512, 1 << 32, 1<<32 + 1, math.MinInt, math.MaxInt}
	noCounts = []int{0, -1, api.MaxCount + 1, api.MaxCount + 2, 1<<32 + 1, math.MinInt, math.MaxInt}
)

// someBytes holds both ends, what stands beside them, and the middle.
var someBytes = []int{0, 1, 2, 127, 128, 254, 255}

// someVersions go from the eldest to the newest.
var someVersions = []api.Version{
	{Count: 1, Writer: 0}, {Count: 1, Writer: 1}, {Count: 1, Writer: 255},
	{Count: 2, Writer: 0}, {Count: 2, Writer: 254}, {Count: 2, Writer: 255},
	{Count: 256, Writer: 0}, {Count: 257, Writer: 7},
	{Count: api.MaxCount - 1, Writer: 255}, {Count: api.MaxCount, Writer: 0}, {Count: api.MaxCount, Writer: 255},
}

// rising answers items of one key, each better than those ahead of it.
func rising(key int) []api.Item {
	var all []api.Item
	for _, v := range someVersions {
		for _, value := range someBytes {
			all = append(all, api.Item{Key: key, Version: v, Value: value})
		}
		all = append(all, api.Item{Key: key, Version: v, Gone: true})
	}
	return all
}

// mayNot answers items that may not be: one fault in each, then some with several.
func mayNot() []api.Item {
	one := api.Version{Count: 1}
	all := []api.Item{{}, {Gone: true}, {Key: 3, Value: 4}}
	for _, n := range noBytes {
		all = append(all,
			api.Item{Key: n, Version: one},
			api.Item{Key: n, Version: one, Value: 255},
			api.Item{Key: n, Version: one, Gone: true},
			api.Item{Key: 7, Version: one, Value: n},
			api.Item{Key: 7, Version: one, Value: n, Gone: true},
			api.Item{Key: 7, Version: api.Version{Count: 1, Writer: n}, Value: 9},
			api.Item{Key: 7, Version: api.Version{Count: 1, Writer: n}, Gone: true},
			api.Item{Key: n, Version: api.Version{Count: n, Writer: n}, Value: n, Gone: true})
	}
	for _, n := range noCounts {
		all = append(all,
			api.Item{Key: 7, Version: api.Version{Count: n, Writer: 3}, Value: 9},
			api.Item{Key: 7, Version: api.Version{Count: n, Writer: 3}, Gone: true})
	}
	for value := 1; value <= 255; value++ {
		all = append(all, api.Item{Key: 7, Version: one, Value: value, Gone: true})
	}
	return all
}

func best(t *testing.T, a api.Item, b api.Item, want api.Item) {
	t.Helper()
	if got, e := Best(a, b); got != want || e != api.OK {
		t.Errorf("P4.1: Best(%v, %v): %v, %d, want %v", a, b, got, e, want)
	}
}

func refused(t *testing.T, a api.Item, b api.Item) {
	t.Helper()
	if got, e := Best(a, b); got != (api.Item{}) || e != api.ErrItemForm {
		t.Errorf("P4.1, R2: Best(%v, %v): %v, %d", a, b, got, e)
	}
}

func TestMayOfEachKeyAndValue(t *testing.T) {
	for key := range 256 {
		for value := range 256 {
			if i := (api.Item{Key: key, Version: api.Version{Count: 1 + value, Writer: key}, Value: value}); !May(i) {
				t.Fatalf("P4.1: May(%v): false", i)
			}
		}
		if i := (api.Item{Key: key, Version: api.Version{Count: api.MaxCount, Writer: key}, Gone: true}); !May(i) {
			t.Fatalf("P4.1: May(%v): false", i)
		}
	}
}

func TestMayNot(t *testing.T) {
	for _, i := range mayNot() {
		if May(i) {
			t.Errorf("P4.1: May(%v): true", i)
		}
	}
}

func TestBestOfSomeItems(t *testing.T) {
	elder, newer := api.Version{Count: 1, Writer: 9}, api.Version{Count: 2, Writer: 3}
	for _, c := range []struct{ better, worse api.Item }{
		// A newer version is better whatever the rest is.
		{api.Item{Key: 5, Version: newer, Value: 1}, api.Item{Key: 5, Version: elder, Value: 2}},
		{api.Item{Key: 5, Version: newer, Value: 0}, api.Item{Key: 5, Version: elder, Value: 255}},
		{api.Item{Key: 5, Version: newer, Value: 0}, api.Item{Key: 5, Version: elder, Gone: true}},
		{api.Item{Key: 5, Version: newer, Gone: true}, api.Item{Key: 5, Version: elder, Value: 255}},
		{api.Item{Key: 5, Version: newer, Gone: true}, api.Item{Key: 5, Version: elder, Gone: true}},
		// Of one Count the writer tells.
		{api.Item{Key: 5, Version: api.Version{Count: 4, Writer: 8}, Value: 1}, api.Item{Key: 5, Version: api.Version{Count: 4, Writer: 7}, Gone: true}},
		{api.Item{Key: 5, Version: api.Version{Count: 4, Writer: 255}, Value: 0}, api.Item{Key: 5, Version: api.Version{Count: 4, Writer: 0}, Value: 255}},
		// Of one version the one that is Gone, then the greater Value.
		{api.Item{Key: 5, Version: elder, Gone: true}, api.Item{Key: 5, Version: elder, Value: 0}},
		{api.Item{Key: 5, Version: elder, Gone: true}, api.Item{Key: 5, Version: elder, Value: 255}},
		{api.Item{Key: 5, Version: elder, Value: 1}, api.Item{Key: 5, Version: elder, Value: 0}},
		{api.Item{Key: 5, Version: elder, Value: 255}, api.Item{Key: 5, Version: elder, Value: 254}},
	} {
		best(t, c.better, c.worse, c.better)
		best(t, c.worse, c.better, c.better)
	}
}

// TestBestInARow holds each against each, and so an item against itself too.
func TestBestInARow(t *testing.T) {
	for _, key := range []int{0, 1, 128, 255} {
		all := rising(key)
		for i, a := range all {
			for j, b := range all {
				best(t, a, b, all[max(i, j)])
			}
		}
	}
}

func TestBestOfEachValue(t *testing.T) {
	v := api.Version{Count: 300, Writer: 40}
	for value := range 256 {
		for other := range 256 {
			best(t, api.Item{Key: 9, Version: v, Value: value}, api.Item{Key: 9, Version: v, Value: other}, api.Item{Key: 9, Version: v, Value: max(value, other)})
		}
	}
}

func TestBestRefusesUnlikeKeys(t *testing.T) {
	v := api.Version{Count: 2, Writer: 3}
	for key := range 256 {
		for other := range 256 {
			if key == other {
				continue
			}
			refused(t, api.Item{Key: key, Version: v, Value: 8}, api.Item{Key: other, Version: v, Value: 8})
			refused(t, api.Item{Key: key, Version: v, Gone: true}, api.Item{Key: other, Version: api.Version{Count: 1}})
		}
	}
}

func TestBestRefusesWhatMayNotBe(t *testing.T) {
	for _, w := range mayNot() {
		// Where the Key may be it is the same on both sides, so that the fault alone tells.
		for _, right := range []api.Item{
			{Key: w.Key, Version: api.Version{Count: 1}},
			{Key: w.Key, Version: api.Version{Count: 1}, Gone: true},
			{Key: w.Key, Version: api.Version{Count: api.MaxCount, Writer: 255}, Value: 255},
			{Key: 8, Version: api.Version{Count: 5, Writer: 5}, Value: 5},
		} {
			refused(t, w, right)
			refused(t, right, w)
		}
		refused(t, w, w)
	}
}

func TestManyCallAtOneTime(t *testing.T) {
	all := rising(77)
	var done sync.WaitGroup
	for range 8 {
		done.Add(1)
		go func() {
			defer done.Done()
			for i, a := range all {
				j := len(all) - 1 - i
				if got, e := Best(a, all[j]); got != all[max(i, j)] || e != api.OK || !May(a) {
					t.Errorf("R5: Best(%v, %v): %v, %d", a, all[j], got, e)
				}
			}
		}()
	}
	done.Wait()
}
