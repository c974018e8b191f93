package span

import (
	"math"
	"slices"
	"sync"
	"testing"

	"gimmal/api"
)

// noPlaces are the nearest numbers beside the ring, those that a place's byte
// would hide, and those at which a difference would wrap round.
var noPlaces = []int{-1, api.Ids, -api.Ids, api.Ids + 1, 2 * api.Ids, 1 << 32, math.MinInt, math.MaxInt, math.MinInt + 1, math.MaxInt - 1}

// plain is an item that tells by its Value which key it was made for; each third one is gone.
func plain(key int) api.Item {
	i := api.Item{Key: key, Version: api.Version{Count: 1 + key, Writer: 255 - key}, Value: key}
	if key%3 == 1 {
		i.Value, i.Gone = 0, true
	}
	return i
}

// of answers a list of plain items, in the order of keys.
func of(keys ...int) []api.Item {
	var all []api.Item
	for _, key := range keys {
		all = append(all, plain(key))
	}
	return all
}

// stepped answers count plain items, their keys from first on, step apart.
func stepped(first int, step int, count int) []api.Item {
	var all []api.Item
	for n := range count {
		all = append(all, plain(first+step*n))
	}
	return all
}

// part marks the places behind from, up to to, by going there place by place.
func part(from int, to int) [api.Ids]bool {
	var in [api.Ids]bool
	for at := from; ; {
		at++
		if at == api.Ids {
			at = 0
		}
		in[at] = true
		if at == to {
			return in
		}
	}
}

func spans(t *testing.T, is []api.Item, from int, to int, want []api.Item) {
	t.Helper()
	if got, e := Of(is, from, to); !slices.Equal(got, want) || e != api.OK {
		t.Errorf("P6.1: Of(%v, %d, %d): %v, %d, want %v", is, from, to, got, e, want)
	}
}

func refuses(t *testing.T, is []api.Item, from int, to int) {
	t.Helper()
	if got, e := Of(is, from, to); len(got) != 0 || e != api.ErrSpanForm {
		t.Errorf("P6.1, R2: Of(%v, %d, %d): %v, %d", is, from, to, got, e)
	}
}

// noStore holds a list that may not be against parts of the ring, its items within them or not.
func noStore(t *testing.T, is []api.Item) {
	t.Helper()
	for _, p := range [][2]int{{0, 0}, {7, 7}, {0, 255}, {255, 0}, {100, 120}, {120, 100}} {
		refuses(t, is, p[0], p[1])
	}
	refuses(t, is, -1, 0)
	refuses(t, is, 0, 256)
}

func TestSomeParts(t *testing.T) {
	is := of(0, 10, 11, 20, 21, 255)
	spans(t, is, 10, 20, of(11, 20))
	spans(t, is, 9, 20, of(10, 11, 20))
	spans(t, is, 10, 19, of(11))
	spans(t, is, 11, 19, nil)
	spans(t, is, 21, 254, nil)
	spans(t, is, 20, 21, of(21))
	spans(t, is, 0, 255, of(10, 11, 20, 21, 255))
	spans(t, is, 255, 0, of(0))
	spans(t, is, 254, 255, of(255))
	spans(t, is, 1, 0, is)
	spans(t, is, 11, 10, of(0, 10, 20, 21, 255))
}

// TestPartsAroundTheEnd: what is behind the end of the ring still stands by its key, not by its distance.
func TestPartsAroundTheEnd(t *testing.T) {
	is := of(0, 3, 5, 6, 250, 251, 255)
	spans(t, is, 250, 5, of(0, 3, 5, 251, 255))
	spans(t, is, 249, 6, of(0, 3, 5, 6, 250, 251, 255))
	spans(t, is, 251, 0, of(0, 255))
	spans(t, is, 255, 5, of(0, 3, 5))
	spans(t, is, 6, 3, of(0, 3, 250, 251, 255))
}

// TestFromAPlaceToItself: that is all of the ring, the place too.
func TestFromAPlaceToItself(t *testing.T) {
	is := stepped(0, 17, api.MaxItems)
	for place := range api.Ids {
		spans(t, is, place, place, is)
		spans(t, of(place), place, place, of(place))
		spans(t, nil, place, place, nil)
	}
}

func TestEmptyStores(t *testing.T) {
	for _, is := range [][]api.Item{nil, {}, make([]api.Item, 0, 4)} {
		spans(t, is, 0, 0, nil)
		spans(t, is, 0, 255, nil)
		spans(t, is, 200, 10, nil)
	}
}

func TestAllParts(t *testing.T) {
	stores := [][]api.Item{
		of(0), of(255), of(0, 255), of(127, 128),
		stepped(0, 1, api.MaxItems), stepped(240, 1, api.MaxItems),
		stepped(0, 17, api.MaxItems), stepped(3, 16, api.MaxItems),
	}
	for from := range api.Ids {
		for to := range api.Ids {
			in := part(from, to)
			for _, is := range stores {
				var want []api.Item
				for _, i := range is {
					if in[i.Key] {
						want = append(want, i)
					}
				}
				spans(t, is, from, to, want)
			}
		}
		if t.Failed() {
			return
		}
	}
}

// TestItemsAreToldAsTheyAre: neither what is gone nor the greatest numbers make an item another one.
func TestItemsAreToldAsTheyAre(t *testing.T) {
	for _, v := range []api.Version{{Count: 1, Writer: 0}, {Count: 1, Writer: 255}, {Count: api.MaxCount, Writer: 0}, {Count: api.MaxCount, Writer: 255}} {
		for _, i := range []api.Item{{Key: 40, Version: v}, {Key: 40, Version: v, Value: 255}, {Key: 40, Version: v, Gone: true}} {
			is := []api.Item{plain(39), i, plain(41)}
			spans(t, is, 39, 40, []api.Item{i})
			spans(t, is, 39, 41, []api.Item{i, plain(41)})
			spans(t, is, 40, 39, of(39, 41))
		}
	}
}

func TestNoPlaces(t *testing.T) {
	for _, is := range [][]api.Item{nil, {}, of(0), of(7, 255), stepped(0, 17, api.MaxItems)} {
		for _, n := range noPlaces {
			for _, place := range []int{0, 1, 128, 255} {
				refuses(t, is, n, place)
				refuses(t, is, place, n)
			}
			for _, other := range noPlaces {
				refuses(t, is, n, other)
			}
		}
	}
}

func TestNoStoreByItsOrder(t *testing.T) {
	noStore(t, of(5, 5))
	noStore(t, of(5, 4))
	noStore(t, of(255, 0))
	noStore(t, of(1, 3, 2))
	for at := range api.MaxItems - 1 {
		is := stepped(10, 3, api.MaxItems)
		is[at], is[at+1] = is[at+1], is[at]
		noStore(t, is)
		is[at] = is[at+1]
		noStore(t, is)
	}
}

func TestNoStoreByItsLength(t *testing.T) {
	for _, count := range []int{api.MaxItems + 1, 2 * api.MaxItems, api.Ids} {
		noStore(t, stepped(0, 1, count))
	}
	if got, e := Of(make([]api.Item, 1<<16), 0, 0); len(got) != 0 || e != api.ErrSpanForm {
		t.Errorf("P6.1: a long list: %d items, %d", len(got), e)
	}
}

func TestNoStoreByAnItem(t *testing.T) {
	one := api.Version{Count: 1}
	all := []api.Item{
		{},
		{Key: 7},
		{Key: 7, Version: one, Value: -1},
		{Key: 7, Version: one, Value: 256},
		{Key: 7, Version: one, Value: 1, Gone: true},
		{Key: 7, Version: api.Version{Count: -1}},
		{Key: 7, Version: api.Version{Count: api.MaxCount + 1}},
		{Key: 7, Version: api.Version{Count: 1, Writer: -1}},
		{Key: 7, Version: api.Version{Count: 1, Writer: 256}, Gone: true},
	}
	for _, n := range noPlaces {
		all = append(all, api.Item{Key: n, Version: one})
	}
	for _, w := range all {
		noStore(t, []api.Item{w})
		noStore(t, []api.Item{w, plain(200)})
		noStore(t, []api.Item{plain(3), w})
		noStore(t, []api.Item{plain(3), w, plain(200)})
	}
	for at := range api.MaxItems {
		is := stepped(10, 3, api.MaxItems)
		is[at].Version.Count = 0
		noStore(t, is)
	}
}

// clobber writes over a list and its spare room.
func clobber(is []api.Item) {
	is = is[:cap(is)]
	for at := range is {
		is[at] = api.Item{Key: -9}
	}
}

// TestWhatIsHandedInStays takes parts that are all of a store, its beginning, its end, its middle, both ends, none of it.
func TestWhatIsHandedInStays(t *testing.T) {
	for _, p := range [][2]int{{0, 0}, {0, 20}, {10, 30}, {10, 20}, {20, 10}, {40, 50}} {
		whole := of(10, 20, 30, 77, 78)
		old := slices.Clone(whole)
		first, _ := Of(whole[:3], p[0], p[1])
		second, _ := Of(whole[:3], p[0], p[1])
		want := slices.Clone(second)
		if !slices.Equal(whole, old) {
			t.Errorf("R4: %v: the list, or its spare room, became %v", p, whole)
		}
		clobber(first)
		if !slices.Equal(whole, old) || !slices.Equal(second, want) {
			t.Errorf("R4: %v: an answer shares memory: %v, %v", p, whole, second)
		}
		clobber(whole)
		if !slices.Equal(second, want) {
			t.Errorf("R4: %v: an answer shares memory with what was handed in: %v", p, second)
		}
	}
}

// TestAnEmptyListsSpareRoomStays: an empty list of some room is handed in.
func TestAnEmptyListsSpareRoomStays(t *testing.T) {
	whole := of(10, 20)
	got, _ := Of(whole[:0], 0, 0)
	clobber(got)
	if !slices.Equal(whole, of(10, 20)) {
		t.Errorf("R4: the spare room became %v", whole)
	}
}

func TestManyCallAtOneTime(t *testing.T) {
	is := stepped(0, 17, api.MaxItems)
	var all sync.WaitGroup
	for n := range 8 {
		all.Add(1)
		go func() {
			defer all.Done()
			for at := range api.MaxItems - 2 {
				from, to := 17*at, 17*(at+1)+n
				if got, e := Of(is, from, to); !slices.Equal(got, is[at+1:at+2]) || e != api.OK {
					t.Errorf("R5: Of(%v, %d, %d): %v, %d", is, from, to, got, e)
				}
			}
		}()
	}
	all.Wait()
}
