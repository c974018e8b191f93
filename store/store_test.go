package store

import (
	"math"
	"slices"
	"sync"
	"testing"

	"gimmal/api"
)

// noKeys are the nearest numbers beside what a key may be, those that a byte
// would hide, and those at which a difference would wrap round.
var noKeys = []int{-1, 256, 257, -255, -256, 511, 512, 1 << 32, 1<<32 + 1, math.MinInt, math.MaxInt}

// better answers items of one key, each better than those ahead of it.
func better(key int) []api.Item {
	var all []api.Item
	for _, v := range []api.Version{{Count: 1, Writer: 0}, {Count: 1, Writer: 255}, {Count: 2, Writer: 0}, {Count: 256, Writer: 3}, {Count: api.MaxCount, Writer: 255}} {
		all = append(all,
			api.Item{Key: key, Version: v, Value: 0},
			api.Item{Key: key, Version: v, Value: 1},
			api.Item{Key: key, Version: v, Value: 255},
			api.Item{Key: key, Version: v, Gone: true})
	}
	return all
}

// mayNot answers items that may not be, one fault in each but the first.
func mayNot(key int) []api.Item {
	one := api.Version{Count: 1}
	all := []api.Item{
		{Key: key},
		{Key: key, Version: one, Value: -1},
		{Key: key, Version: one, Value: 256},
		{Key: key, Version: one, Value: 1, Gone: true},
		{Key: key, Version: api.Version{Count: -1}},
		{Key: key, Version: api.Version{Count: api.MaxCount + 1}},
		{Key: key, Version: api.Version{Count: 1, Writer: -1}},
		{Key: key, Version: api.Version{Count: 1, Writer: 256}, Gone: true},
	}
	for _, n := range noKeys {
		all = append(all, api.Item{Key: n, Version: one}, api.Item{Key: n, Version: one, Gone: true})
	}
	return all
}

// plain is an item that tells by its Value which key it was made for.
func plain(key int) api.Item {
	return api.Item{Key: key, Version: api.Version{Count: 1 + key, Writer: 255 - key}, Value: key}
}

// of answers a list of plain items, in the order of keys.
func of(keys ...int) []api.Item {
	var all []api.Item
	for _, key := range keys {
		all = append(all, plain(key))
	}
	return all
}

// stepped answers count plain items, their keys from first on, step apart.
func stepped(first int, step int, count int) []api.Item {
	var all []api.Item
	for n := range count {
		all = append(all, plain(first+step*n))
	}
	return all
}

func may(t *testing.T, is []api.Item, want bool) {
	t.Helper()
	if got := May(is); got != want {
		t.Errorf("P5.1: May(%v): %v", is, got)
	}
}

func puts(t *testing.T, is []api.Item, i api.Item, want []api.Item) {
	t.Helper()
	if got, e := Put(is, i); !slices.Equal(got, want) || e != api.OK {
		t.Errorf("P5.1: Put(%v, %v): %v, %d, want %v", is, i, got, e, want)
	}
}

func putRefuses(t *testing.T, is []api.Item, i api.Item, want api.Errno) {
	t.Helper()
	if got, e := Put(is, i); len(got) != 0 || e != want {
		t.Errorf("P5.1, R2: Put(%v, %v): %v, %d, want %d", is, i, got, e, want)
	}
}

func gets(t *testing.T, is []api.Item, key int, want api.Item) {
	t.Helper()
	if got, there := Get(is, key); got != want || !there {
		t.Errorf("P5.1: Get(%v, %d): %v, %v, want %v", is, key, got, there, want)
	}
}

func getsNone(t *testing.T, is []api.Item, key int) {
	t.Helper()
	if got, there := Get(is, key); got != (api.Item{}) || there {
		t.Errorf("P5.1, R2: Get(%v, %d): %v, %v", is, key, got, there)
	}
}

// noStore holds a list that may not be against all three calls.
func noStore(t *testing.T, is []api.Item) {
	t.Helper()
	may(t, is, false)
	for _, key := range []int{0, 7, 255} {
		putRefuses(t, is, plain(key), api.ErrStoreForm)
	}
	putRefuses(t, is, api.Item{}, api.ErrStoreForm)
	for _, i := range is {
		getsNone(t, is, i.Key)
	}
	getsNone(t, is, 7)
}

func TestMayOfSomeStores(t *testing.T) {
	may(t, nil, true)
	may(t, []api.Item{}, true)
	may(t, of(0), true)
	may(t, of(255), true)
	may(t, of(0, 1), true)
	may(t, of(0, 255), true)
	may(t, of(3, 4, 5, 200), true)
	may(t, stepped(0, 1, api.MaxItems), true)
	may(t, stepped(240, 1, api.MaxItems), true)
	may(t, stepped(0, 17, api.MaxItems), true)
	for _, i := range better(9) {
		may(t, []api.Item{plain(8), i, plain(10)}, true)
	}
}

func TestNoStoreByItsOrder(t *testing.T) {
	noStore(t, of(5, 5))
	noStore(t, of(5, 4))
	noStore(t, of(255, 0))
	noStore(t, of(1, 2, 2))
	noStore(t, of(1, 1, 2))
	noStore(t, of(1, 3, 2))
	noStore(t, of(2, 1, 3))
	noStore(t, of(1, 2, 1))
	// Two of one key are one too many even if their versions rise.
	all := better(7)
	noStore(t, []api.Item{all[0], all[len(all)-1]})
	for at := range api.MaxItems - 1 {
		is := stepped(10, 3, api.MaxItems)
		is[at], is[at+1] = is[at+1], is[at]
		noStore(t, is)
		is[at] = is[at+1]
		noStore(t, is)
	}
}

func TestNoStoreByItsLength(t *testing.T) {
	for _, count := range []int{api.MaxItems + 1, api.MaxItems + 2, 2 * api.MaxItems, 256} {
		noStore(t, stepped(0, 1, count))
	}
	may(t, make([]api.Item, 1<<16), false)
}

func TestNoStoreByAnItem(t *testing.T) {
	for _, w := range mayNot(7) {
		noStore(t, []api.Item{w})
		noStore(t, []api.Item{w, plain(200)})
		noStore(t, []api.Item{plain(3), w})
		noStore(t, []api.Item{plain(3), w, plain(200)})
	}
	for at := range api.MaxItems {
		is := stepped(10, 3, api.MaxItems)
		is[at].Version.Count = 0
		noStore(t, is)
	}
}

func TestPutOfANewKey(t *testing.T) {
	puts(t, nil, plain(5), of(5))
	puts(t, []api.Item{}, plain(0), of(0))
	puts(t, of(5), plain(4), of(4, 5))
	puts(t, of(5), plain(6), of(5, 6))
	puts(t, of(5, 9), plain(7), of(5, 7, 9))
	puts(t, of(1, 254), plain(0), of(0, 1, 254))
	puts(t, of(1, 254), plain(255), of(1, 254, 255))
	// A place's neighbours around the ring are not a store's: keys rise from 0.
	puts(t, of(255), plain(0), of(0, 255))
	// One that is gone is held as any other.
	gone := api.Item{Key: 7, Version: api.Version{Count: 1}, Gone: true}
	puts(t, nil, gone, []api.Item{gone})
	puts(t, of(5, 9), gone, []api.Item{plain(5), gone, plain(9)})
}

func TestPutOfEachKeyInEachLength(t *testing.T) {
	for count := range api.MaxItems {
		is := stepped(3, 16, count)
		for key := range 256 {
			if slices.Contains(is, plain(key)) {
				puts(t, is, plain(key), is)
				continue
			}
			var want []api.Item
			for k := range 256 {
				if k == key || slices.Contains(is, plain(k)) {
					want = append(want, plain(k))
				}
			}
			puts(t, is, plain(key), want)
		}
	}
}

func TestPutOfAKeyThatIsThere(t *testing.T) {
	all := better(40)
	for i, old := range all {
		for j, next := range all {
			best := all[max(i, j)]
			puts(t, []api.Item{old}, next, []api.Item{best})
			puts(t, []api.Item{plain(39), old, plain(41)}, next, []api.Item{plain(39), best, plain(41)})
		}
	}
}

func TestPutIntoAFullStore(t *testing.T) {
	full := stepped(3, 16, api.MaxItems)
	for key := range 256 {
		at := slices.Index(full, plain(key))
		if at < 0 {
			putRefuses(t, full, plain(key), api.ErrStoreFull)
			continue
		}
		// What is there already takes no room: the better one is put all the same.
		all := better(key)
		best := all[len(all)-1]
		want := slices.Clone(full)
		want[at] = best
		puts(t, full, best, want)
		puts(t, want, plain(key), want)
	}
	// One that is gone takes room too.
	gone := slices.Clone(full)
	for at := range gone {
		gone[at].Value, gone[at].Gone = 0, true
	}
	putRefuses(t, gone, plain(0), api.ErrStoreFull)
	putRefuses(t, full, api.Item{Key: 0, Version: api.Version{Count: 1}, Gone: true}, api.ErrStoreFull)
}

func TestPutOfWhatMayNotBe(t *testing.T) {
	full := stepped(3, 16, api.MaxItems)
	// 7 is not in full and 19 is: neither Full nor Best stands ahead of the form.
	for _, w := range append(mayNot(7), mayNot(19)...) {
		putRefuses(t, nil, w, api.ErrStoreForm)
		putRefuses(t, of(3, 200), w, api.ErrStoreForm)
		putRefuses(t, of(7, 19), w, api.ErrStoreForm)
		putRefuses(t, full, w, api.ErrStoreForm)
		putRefuses(t, of(5, 5), w, api.ErrStoreForm)
	}
}

func TestGetOfEachKey(t *testing.T) {
	for count := range api.MaxItems + 1 {
		is := stepped(0, 17, count)
		for key := range 256 {
			if slices.Contains(is, plain(key)) {
				gets(t, is, key, plain(key))
			} else {
				getsNone(t, is, key)
			}
		}
		for _, key := range noKeys {
			getsNone(t, is, key)
		}
	}
}

func TestGetTellsTheItemAsItIs(t *testing.T) {
	for _, i := range better(40) {
		gets(t, []api.Item{plain(39), i, plain(41)}, 40, i)
	}
}

// clobber writes over a list and its spare room.
func clobber(is []api.Item) {
	is = is[:cap(is)]
	for at := range is {
		is[at] = api.Item{Key: -9}
	}
}

func TestWhatIsHandedInStays(t *testing.T) {
	all := better(20)
	for _, i := range []api.Item{plain(5), plain(15), plain(45), plain(20), all[0], all[len(all)-1]} {
		whole := of(10, 20, 30, 77, 78)
		old := slices.Clone(whole)
		is := whole[:3]
		first, _ := Put(is, i)
		second, _ := Put(is, i)
		want := slices.Clone(second)
		May(is)
		Get(is, 20)
		if !slices.Equal(whole, old) {
			t.Errorf("R4: Put of %v: the list, or its spare room, became %v", i, whole)
		}
		clobber(first)
		if !slices.Equal(whole, old) || !slices.Equal(second, want) {
			t.Errorf("R4: Put of %v: an answer shares memory: %v, %v", i, whole, second)
		}
		clobber(whole)
		if !slices.Equal(second, want) {
			t.Errorf("R4: Put of %v: an answer shares memory with what was handed in: %v", i, second)
		}
	}
}

// TestAnEmptyListsSpareRoomStays: an empty list of some room is handed in.
func TestAnEmptyListsSpareRoomStays(t *testing.T) {
	whole := of(10, 20)
	got, _ := Put(whole[:0], plain(5))
	clobber(got)
	if !slices.Equal(whole, of(10, 20)) {
		t.Errorf("R4: the spare room became %v", whole)
	}
}

// TestItemsInAnyOrderMakeOneStore: the best of each key is held, whichever came first.
func TestItemsInAnyOrderMakeOneStore(t *testing.T) {
	var came, want []api.Item
	for key := 5; key < 5+api.MaxItems; key++ {
		all := better(key)
		came = append(came, all...)
		want = append(want, all[len(all)-1])
	}
	// Each step has no part in common with the count, so that each item comes once.
	for _, step := range []int{1, 3, 7, 11, 77, 319} {
		var is []api.Item
		for n := range came {
			next, e := Put(is, came[n*step%len(came)])
			if e != api.OK || !May(next) {
				t.Fatalf("P5.1: step %d: %v, %d", step, next, e)
			}
			is = next
		}
		if !slices.Equal(is, want) {
			t.Errorf("P5.1: step %d: %v, want %v", step, is, want)
		}
	}
}

func TestManyCallAtOneTime(t *testing.T) {
	is := stepped(0, 2, api.MaxItems-1)
	var done sync.WaitGroup
	for n := range 8 {
		done.Add(1)
		go func() {
			defer done.Done()
			for key := 100 + n; key < 256; key++ {
				want := append(slices.Clone(is), plain(key))
				if got, e := Put(is, plain(key)); !slices.Equal(got, want) || e != api.OK || !May(is) {
					t.Errorf("R5: Put(%v, %v): %v, %d", is, plain(key), got, e)
				}
				if got, there := Get(is, 4); got != plain(4) || !there {
					t.Errorf("R5: Get(%v, 4): %v, %v", is, got, there)
				}
			}
		}()
	}
	done.Wait()
}
