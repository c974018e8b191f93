package passive

import (
	"math"
	"slices"
	"sync"
	"testing"

	"gimmal/api"
)

// noPlaces are the nearest numbers beside the ring, those that a place's byte
// would hide, and those at which a difference would wrap round.
var noPlaces = []int{-1, api.Ids, -api.Ids, api.Ids + 1, 2 * api.Ids, 1 << 32, math.MinInt, math.MaxInt, math.MinInt + 1, math.MaxInt - 1}

// stepped answers count numbers, from first on, step apart.
func stepped(first int, step int, count int) []int {
	var all []int
	for n := range count {
		all = append(all, first+step*n)
	}
	return all
}

// walk goes over all places, upwards, and tells those that are in.
func walk(in func(id int) bool) []int {
	var met []int
	for id := range api.Ids {
		if in(id) {
			met = append(met, id)
		}
	}
	return met
}

func union(ids []int, id int) []int {
	return walk(func(x int) bool { return x == id || slices.Contains(ids, x) })
}

func difference(ids []int, id int) []int {
	return walk(func(x int) bool { return x != id && slices.Contains(ids, x) })
}

func may(t *testing.T, ids []int) {
	t.Helper()
	if !May(ids) {
		t.Errorf("P8.1: May(%v): false", ids)
	}
}

func with(t *testing.T, ids []int, id int, want []int) {
	t.Helper()
	if got, e := With(ids, id); !slices.Equal(got, want) || e != api.OK {
		t.Errorf("P8.1: With(%v, %d): %v, %d, want %v", ids, id, got, e, want)
	}
}

func without(t *testing.T, ids []int, id int, want []int) {
	t.Helper()
	if got, e := Without(ids, id); !slices.Equal(got, want) || e != api.OK {
		t.Errorf("P8.1: Without(%v, %d): %v, %d, want %v", ids, id, got, e, want)
	}
}

func withRefuses(t *testing.T, ids []int, id int, want api.Errno) {
	t.Helper()
	if got, e := With(ids, id); len(got) != 0 || e != want {
		t.Errorf("P8.1, R2: With(%v, %d): %v, %d, want %d", ids, id, got, e, want)
	}
}

func withoutRefuses(t *testing.T, ids []int, id int) {
	t.Helper()
	if got, e := Without(ids, id); len(got) != 0 || e != api.ErrPassiveForm {
		t.Errorf("P8.1, R2: Without(%v, %d): %v, %d", ids, id, got, e)
	}
}

// mayNot holds a list that may not be against all calls: an id that is there, or not, or that is no place.
func mayNot(t *testing.T, ids []int) {
	t.Helper()
	if May(ids) {
		t.Errorf("P8.1: May(%v): true", ids)
	}
	for _, id := range append([]int{0, 5, 77, 255, -1, api.Ids}, ids[:min(len(ids), api.MaxList)]...) {
		withRefuses(t, ids, id, api.ErrPassiveForm)
		withoutRefuses(t, ids, id)
	}
}

func TestSomeMayBe(t *testing.T) {
	may(t, nil)
	may(t, []int{})
	may(t, []int{0})
	may(t, []int{255})
	may(t, []int{0, 255})
	may(t, []int{0, 1, 2})
	may(t, []int{253, 254, 255})
	may(t, stepped(0, 1, api.MaxList))
	may(t, stepped(240, 1, api.MaxList))
	may(t, stepped(0, 17, api.MaxList))
}

// TestTwoMayBe holds all pairs, the numbers beside the ring too, against what the chapter says.
func TestTwoMayBe(t *testing.T) {
	for first := -2; first < api.Ids+2; first++ {
		for second := -2; second < api.Ids+2; second++ {
			want := 0 <= first && first < second && second < api.Ids
			if got := May([]int{first, second}); got != want {
				t.Errorf("P8.1: May(%d, %d): %v", first, second, got)
			}
		}
	}
}

func TestWithSome(t *testing.T) {
	with(t, nil, 0, []int{0})
	with(t, []int{}, 255, []int{255})
	with(t, []int{20}, 10, []int{10, 20})
	with(t, []int{20}, 30, []int{20, 30})
	with(t, []int{20, 40}, 30, []int{20, 30, 40})
	with(t, []int{1, 254}, 0, []int{0, 1, 254})
	with(t, []int{1, 254}, 255, []int{1, 254, 255})
	with(t, []int{20}, 20, []int{20})
	with(t, []int{20, 30, 40}, 20, []int{20, 30, 40})
	with(t, []int{20, 30, 40}, 30, []int{20, 30, 40})
	with(t, []int{20, 30, 40}, 40, []int{20, 30, 40})
}

func TestWithoutSome(t *testing.T) {
	without(t, nil, 0, nil)
	without(t, []int{}, 255, nil)
	without(t, []int{20}, 20, nil)
	without(t, []int{20}, 21, []int{20})
	without(t, []int{0, 255}, 0, []int{255})
	without(t, []int{0, 255}, 255, []int{0})
	without(t, []int{20, 30, 40}, 20, []int{30, 40})
	without(t, []int{20, 30, 40}, 30, []int{20, 40})
	without(t, []int{20, 30, 40}, 40, []int{20, 30})
	without(t, []int{20, 30, 40}, 35, []int{20, 30, 40})
	without(t, []int{20, 30, 40}, 0, []int{20, 30, 40})
}

// TestEachPlace puts and takes each place into and out of lists of each length below the greatest.
func TestEachPlace(t *testing.T) {
	for count := range api.MaxList {
		for _, ids := range [][]int{stepped(0, 1, count), stepped(256-count, 1, count), stepped(7, 16, count)} {
			for id := range api.Ids {
				with(t, ids, id, union(ids, id))
				without(t, ids, id, difference(ids, id))
			}
		}
	}
}

// TestAsManyAsMayBe: none is new there; whoever is there already stays, and may be taken out.
func TestAsManyAsMayBe(t *testing.T) {
	for _, ids := range [][]int{stepped(0, 1, api.MaxList), stepped(240, 1, api.MaxList), stepped(7, 16, api.MaxList)} {
		with(t, ids[:api.MaxList-1], ids[api.MaxList-1], ids)
		for id := range api.Ids {
			if slices.Contains(ids, id) {
				with(t, ids, id, ids)
			} else {
				withRefuses(t, ids, id, api.ErrPassiveFull)
			}
			without(t, ids, id, difference(ids, id))
		}
		// What is no place is told ahead of the list's being full.
		for _, n := range noPlaces {
			withRefuses(t, ids, n, api.ErrPassiveForm)
			withoutRefuses(t, ids, n)
		}
	}
}

func TestNoPlaces(t *testing.T) {
	for _, n := range noPlaces {
		for _, ids := range [][]int{nil, {}, {0}, {255}, {20, 30, 40}} {
			withRefuses(t, ids, n, api.ErrPassiveForm)
			withoutRefuses(t, ids, n)
		}
		mayNot(t, []int{n})
		for count := range api.MaxList {
			ids := append(stepped(7, 16, count), n)
			slices.Sort(ids)
			mayNot(t, ids)
		}
		for at := range api.MaxList {
			ids := stepped(7, 16, api.MaxList)
			ids[at] = n
			mayNot(t, ids)
		}
	}
}

func TestNoneByTheirOrder(t *testing.T) {
	mayNot(t, []int{5, 5})
	mayNot(t, []int{6, 5})
	mayNot(t, []int{0, 0})
	mayNot(t, []int{255, 0})
	mayNot(t, []int{255, 255})
	mayNot(t, []int{1, 3, 2})
	mayNot(t, []int{1, 3, 1})
	for at := range api.MaxList - 1 {
		ids := stepped(7, 16, api.MaxList)
		ids[at], ids[at+1] = ids[at+1], ids[at]
		mayNot(t, ids)
		ids[at] = ids[at+1]
		mayNot(t, ids)
	}
}

func TestNoneByTheirLength(t *testing.T) {
	for _, count := range []int{api.MaxList + 1, 2 * api.MaxList, api.Ids} {
		mayNot(t, stepped(0, 1, count))
	}
	mayNot(t, stepped(0, 1, 1<<16))
}

// clobber writes over a list and its spare room.
func clobber(ids []int) {
	ids = ids[:cap(ids)]
	for at := range ids {
		ids[at] = -9
	}
}

// leaves holds a call that is given whole's first three against R4.
func leaves(t *testing.T, id int, call func(ids []int, id int) ([]int, api.Errno)) {
	t.Helper()
	whole := []int{20, 30, 40, 77, 78}
	old := slices.Clone(whole)
	first, _ := call(whole[:3], id)
	second, _ := call(whole[:3], id)
	want := slices.Clone(second)
	if !slices.Equal(whole, old) {
		t.Errorf("R4: %d: the list, or its spare room, became %v", id, whole)
	}
	clobber(first)
	if !slices.Equal(whole, old) || !slices.Equal(second, want) {
		t.Errorf("R4: %d: an answer shares memory: %v, %v", id, whole, second)
	}
	clobber(whole)
	if !slices.Equal(second, want) {
		t.Errorf("R4: %d: an answer shares memory with what was handed in: %v", id, second)
	}
}

// TestWhatIsHandedInStays takes those that are not there, ahead, between and behind, and each that is there.
func TestWhatIsHandedInStays(t *testing.T) {
	for _, id := range []int{0, 15, 20, 25, 30, 35, 40, 45, 255} {
		leaves(t, id, With)
		leaves(t, id, Without)
	}
}

// TestAnEmptyListsSpareRoomStays: an empty list of some room is handed in.
func TestAnEmptyListsSpareRoomStays(t *testing.T) {
	whole := []int{20, 30}
	with(t, whole[:0], 25, []int{25})
	without(t, whole[:0], 20, nil)
	got, _ := Without(whole[:0], 20)
	clobber(got)
	if !slices.Equal(whole, []int{20, 30}) {
		t.Errorf("R4: the spare room became %v", whole)
	}
}

func TestManyCallAtOneTime(t *testing.T) {
	ids := stepped(7, 16, api.MaxList-1)
	var all sync.WaitGroup
	for range 8 {
		all.Add(1)
		go func() {
			defer all.Done()
			for id := range api.Ids {
				with(t, ids, id, union(ids, id))
				without(t, ids, id, difference(ids, id))
			}
		}()
	}
	all.Wait()
}
