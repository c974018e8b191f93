package row

import (
	"math"
	"slices"
	"sync"
	"testing"

	"gimmal/api"
)

// noPlaces are the nearest numbers beside the ring, those that a place's byte
// would hide, and those at which a difference would wrap round.
var noPlaces = []int{-1, api.Ids, -api.Ids, api.Ids + 1, 2 * api.Ids, math.MinInt, math.MaxInt}

// numbers is a row of numbers that is the same in each run.
type numbers uint64

func (n *numbers) below(limit int) int {
	*n = *n*6364136223846793005 + 1442695040888963407
	return int(uint64(*n) >> 33 % uint64(limit))
}

// places answers count places; with a narrow width many are the same.
func (n *numbers) places(count int, width int) []int {
	first := n.below(api.Ids)
	ids := make([]int, count)
	for i := range ids {
		ids[i] = (first + n.below(width)) % api.Ids
	}
	return ids
}

// walk goes once around, from the place behind base on, and tells which of ids it meets.
func walk(base int, ids []int) []int {
	var met []int
	for step := 1; step < api.Ids; step++ {
		at := (base + step) % api.Ids
		if slices.Contains(ids, at) {
			met = append(met, at)
		}
	}
	return met
}

// firstFrom goes from key itself on to the first of ids.
func firstFrom(key int, ids []int) int {
	at := key
	for !slices.Contains(ids, at) {
		at = (at + 1) % api.Ids
	}
	return at
}

func sorts(t *testing.T, base int, ids []int, want []int) {
	t.Helper()
	if got, e := Sort(base, ids); !slices.Equal(got, want) || e != api.OK {
		t.Errorf("P2.1: Sort(%d, %v): %v, %d, want %v", base, ids, got, e, want)
	}
}

func owns(t *testing.T, ids []int, key int, want int) {
	t.Helper()
	if got, e := Owner(ids, key); got != want || e != api.OK {
		t.Errorf("P2.1: Owner(%v, %d): %d, %d, want %d", ids, key, got, e, want)
	}
}

func sortRefuses(t *testing.T, base int, ids []int) {
	t.Helper()
	if got, e := Sort(base, ids); len(got) != 0 || e != api.ErrRowForm {
		t.Errorf("P2.1, R2: Sort(%d, %v): %v, %d", base, ids, got, e)
	}
}

func ownerRefuses(t *testing.T, ids []int, key int) {
	t.Helper()
	if got, e := Owner(ids, key); got != 0 || e != api.ErrRowForm {
		t.Errorf("P2.1, R2: Owner(%v, %d): %d, %d", ids, key, got, e)
	}
}

func TestSortOfSomePlaces(t *testing.T) {
	sorts(t, 0, nil, nil)
	sorts(t, 0, []int{}, nil)
	sorts(t, 7, []int{7}, nil)
	sorts(t, 7, []int{7, 7, 7}, nil)
	sorts(t, 7, []int{8}, []int{8})
	sorts(t, 0, []int{3, 1, 2}, []int{1, 2, 3})
	sorts(t, 2, []int{3, 1, 2}, []int{3, 1})
	sorts(t, 100, []int{99, 101, 0, 255}, []int{101, 255, 0, 99})
	sorts(t, 255, []int{255, 0, 254, 128}, []int{0, 128, 254})
	sorts(t, 0, []int{255, 0, 1}, []int{1, 255})
	sorts(t, 5, []int{9, 6, 9, 5, 6, 4, 9, 4}, []int{6, 9, 4})
}

func TestOwnerOfSomePlaces(t *testing.T) {
	owns(t, []int{7}, 7, 7)
	owns(t, []int{7}, 8, 7)
	owns(t, []int{7}, 6, 7)
	owns(t, []int{10, 20, 30}, 20, 20)
	owns(t, []int{10, 20, 30}, 19, 20)
	owns(t, []int{10, 20, 30}, 21, 30)
	owns(t, []int{10, 20, 30}, 31, 10)
	owns(t, []int{30, 10, 20}, 255, 10)
	owns(t, []int{255, 0}, 0, 0)
	owns(t, []int{0, 255}, 1, 255)
	owns(t, []int{0, 254}, 255, 0)
	owns(t, []int{9, 4, 9, 4, 4}, 5, 9)
}

func TestSortAndOwnerFromEachPlace(t *testing.T) {
	n := numbers(2)
	for at := range api.Ids {
		for _, width := range []int{1, 4, 70, api.Ids} {
			ids := n.places(1+n.below(api.MaxRaw), width)
			sorts(t, at, ids, walk(at, ids))
			owns(t, ids, at, firstFrom(at, ids))
			withAt := append(slices.Clone(ids[1:]), at)
			sorts(t, at, withAt, walk(at, withAt))
			owns(t, withAt, at, at)
		}
	}
}

func TestAsManyAsMayBe(t *testing.T) {
	var falling []int
	for i := range api.MaxRaw {
		falling = append(falling, 255-i)
	}
	sorts(t, 10, falling, walk(10, falling))
	owns(t, falling, 10, 255-api.MaxRaw+1)
	// The same one again and again is not one: all that are handed in count.
	sorts(t, 10, make([]int, api.MaxRaw), []int{0})
	owns(t, make([]int, api.MaxRaw), 10, 0)
	for _, count := range []int{api.MaxRaw + 1, api.MaxRaw + 2, api.Ids, 1 << 16} {
		sortRefuses(t, 10, make([]int, count))
		sortRefuses(t, 0, make([]int, count))
		ownerRefuses(t, make([]int, count), 10)
	}
	sortRefuses(t, 10, append(falling, 3))
	ownerRefuses(t, append(falling, 3), 10)
}

func TestOwnerOfNone(t *testing.T) {
	for key := range api.Ids {
		ownerRefuses(t, nil, key)
		ownerRefuses(t, []int{}, key)
	}
}

func TestNoPlaces(t *testing.T) {
	for _, n := range noPlaces {
		sortRefuses(t, n, nil)
		sortRefuses(t, n, []int{5})
		sortRefuses(t, n, []int{n})
		sortRefuses(t, 5, []int{n})
		ownerRefuses(t, nil, n)
		ownerRefuses(t, []int{5}, n)
		ownerRefuses(t, []int{n}, n)
		ownerRefuses(t, []int{n}, 5)
		for at := range 4 {
			ids := []int{5, 5, 200, 0}
			ids[at] = n
			sortRefuses(t, 5, ids)
			ownerRefuses(t, ids, 5)
		}
	}
}

func TestWhatIsHandedInStays(t *testing.T) {
	whole := []int{9, 5, 200, 9, 6, 77, 78}
	old := slices.Clone(whole)
	ids := whole[:5]
	first, _ := Sort(5, ids)
	second, _ := Sort(5, ids)
	Owner(ids, 100)
	if !slices.Equal(whole, old) {
		t.Errorf("R4: the list, or its spare room, became %v", whole)
	}
	want := []int{6, 9, 200}
	first = first[:cap(first)]
	for i := range first {
		first[i] = 1
	}
	if !slices.Equal(whole, old) || !slices.Equal(second, want) {
		t.Errorf("R4: an answer shares memory: %v, %v", whole, second)
	}
	for i := range whole {
		whole[i] = 3
	}
	if !slices.Equal(second, want) {
		t.Errorf("R4: an answer shares memory with what was handed in: %v", second)
	}
}

// TestAnAnswerOfAsManySharesNothing: here nothing is left out, so that a list
// handed back as it came would not be seen by its places.
func TestAnAnswerOfAsManySharesNothing(t *testing.T) {
	ids := []int{1, 2, 3}
	got, _ := Sort(0, ids)
	got[0] = 99
	if !slices.Equal(ids, []int{1, 2, 3}) {
		t.Errorf("R4: the list became %v", ids)
	}
}

func TestManyCallAtOneTime(t *testing.T) {
	n := numbers(3)
	ids := n.places(20, api.Ids)
	var all sync.WaitGroup
	for range 8 {
		all.Add(1)
		go func() {
			defer all.Done()
			for at := range api.Ids {
				if got, e := Sort(at, ids); !slices.Equal(got, walk(at, ids)) || e != api.OK {
					t.Errorf("R5: Sort(%d, %v): %v, %d", at, ids, got, e)
				}
				if got, e := Owner(ids, at); got != firstFrom(at, ids) || e != api.OK {
					t.Errorf("R5: Owner(%v, %d): %d, %d", ids, at, got, e)
				}
			}
		}()
	}
	all.Wait()
}
