package msg

import (
	"math"
	"slices"
	"sync"
	"testing"

	"gimmal/api"
)

// noPlaces are the nearest numbers beside the ring, those that a place's byte
// would hide, and those at which a difference would wrap round.
var noPlaces = []int{-1, api.Ids, -api.Ids, api.Ids + 1, 2 * api.Ids, 1 << 32, math.MinInt, math.MaxInt, math.MinInt + 1, math.MaxInt - 1}

// noKinds are the nearest numbers beside the Kinds, and those that fewer bits would hide.
var noKinds = []int{-1, -2, -3, -4, 4, 5, 7, api.Ids, api.Ids + 1, api.Ids + 2, api.Ids + 3, -api.Ids, 1 << 32, 1<<32 + 1, math.MinInt, math.MaxInt}

var noCounts = []int{0, -1, api.MaxCount + 1, api.MaxCount + 2, 1<<32 + 1, math.MinInt, math.MaxInt}

var kinds = []int{api.KindHello, api.KindItem, api.KindAsk, api.KindTell}

// of answers an item that may be.
func of(key int) api.Item {
	return api.Item{Key: key, Version: api.Version{Count: 3, Writer: 7}, Value: 9}
}

// someMsgs answers messages that may be, of each Kind, without From and To.
func someMsgs() []api.Msg {
	return []api.Msg{
		{Kind: api.KindHello},
		{Kind: api.KindHello, Ids: []int{0, 5, 5, 255, 1}},
		{Kind: api.KindHello, Ids: make([]int, api.MaxList)},
		{Kind: api.KindItem, Item: of(5)},
		{Kind: api.KindItem, Item: api.Item{Version: api.Version{Count: 1}}},
		{Kind: api.KindItem, Item: api.Item{Key: 255, Version: api.Version{Count: api.MaxCount, Writer: 255}, Gone: true}},
		{Kind: api.KindAsk},
		{Kind: api.KindAsk, Key: 255},
		{Kind: api.KindTell},
		{Kind: api.KindTell, Key: 5},
		{Kind: api.KindTell, Key: 5, Item: of(5), Has: true},
		{Kind: api.KindTell, Item: api.Item{Version: api.Version{Count: 1}, Gone: true}, Has: true},
	}
}

// goodItems answers items that may be, at both ends of all that they have.
func goodItems(key int) []api.Item {
	all := []api.Item{}
	for _, count := range []int{1, 2, 255, 256, 257, api.MaxCount - 1, api.MaxCount} {
		for _, writer := range []int{0, 1, 254, 255} {
			v := api.Version{Count: count, Writer: writer}
			all = append(all,
				api.Item{Key: key, Version: v},
				api.Item{Key: key, Version: v, Value: 1},
				api.Item{Key: key, Version: v, Value: 255},
				api.Item{Key: key, Version: v, Gone: true})
		}
	}
	return all
}

// badItems answers items that may not be, none of them zero; of that Key, unless it is the Key that is wrong.
func badItems(key int) []api.Item {
	one := api.Version{Count: 1, Writer: 2}
	all := []api.Item{
		{Key: key, Value: 4},
		{Key: key, Gone: true},
		{Key: key, Version: api.Version{Writer: 2}},
		{Key: key, Version: one, Value: 1, Gone: true},
		{Key: key, Version: one, Value: 255, Gone: true},
	}
	for _, n := range noPlaces {
		all = append(all,
			api.Item{Key: n, Version: one},
			api.Item{Key: key, Version: one, Value: n},
			api.Item{Key: key, Version: one, Value: n, Gone: true},
			api.Item{Key: key, Version: api.Version{Count: 1, Writer: n}})
	}
	for _, n := range noCounts {
		all = append(all, api.Item{Key: key, Version: api.Version{Count: n, Writer: 2}})
	}
	return all
}

// notQuiteZero answers items in which one thing alone is not zero.
func notQuiteZero() []api.Item {
	var all []api.Item
	for _, n := range []int{1, -1, 255, api.Ids, 1 << 32, math.MinInt, math.MaxInt} {
		all = append(all,
			api.Item{Key: n},
			api.Item{Version: api.Version{Count: n}},
			api.Item{Version: api.Version{Writer: n}},
			api.Item{Value: n})
	}
	return append(all, api.Item{Gone: true})
}

// may holds the answer for a message from one place to another against what is told of it.
func may(t *testing.T, m api.Msg, from int, to int, want bool) {
	t.Helper()
	m.From, m.To = from, to
	if got := May(m); got != want {
		t.Errorf("P12.1: May(%v): %v", m, got)
	}
}

func yes(t *testing.T, m api.Msg) {
	t.Helper()
	may(t, m, 10, 20, true)
	may(t, m, 255, 0, true)
}

func no(t *testing.T, m api.Msg) {
	t.Helper()
	may(t, m, 10, 20, false)
	may(t, m, 255, 0, false)
}

func TestSomeMsgs(t *testing.T) {
	for _, m := range someMsgs() {
		yes(t, m)
	}
	no(t, api.Msg{Kind: api.KindItem})
	if May(api.Msg{}) {
		t.Error("P12.1: a message from 0 to 0 may be")
	}
}

// TestFromAndTo holds each pair of places against what may be, for each Kind: unlike ones, in either order.
func TestFromAndTo(t *testing.T) {
	for _, m := range someMsgs() {
		for from := range api.Ids {
			for to := range api.Ids {
				may(t, m, from, to, from != to)
			}
		}
	}
}

func TestFromAndToAreNoPlaces(t *testing.T) {
	for _, m := range someMsgs() {
		for _, n := range noPlaces {
			for _, place := range []int{0, 1, 10, 255} {
				may(t, m, n, place, false)
				may(t, m, place, n, false)
			}
			for _, other := range noPlaces {
				may(t, m, n, other, false)
			}
		}
	}
}

func TestNoKinds(t *testing.T) {
	for _, m := range someMsgs() {
		for _, kind := range noKinds {
			m.Kind = kind
			no(t, m)
		}
	}
}

// TestHowManyMayBeNamed: the length alone tells, whatever the row is.
func TestHowManyMayBeNamed(t *testing.T) {
	for count := range 2 * api.MaxList {
		var rising, falling []int
		for n := range count {
			rising = append(rising, n)
			falling = append(falling, 255-n)
		}
		for _, ids := range [][]int{rising, falling, slices.Repeat([]int{255}, count), slices.Repeat([]int{10}, count), slices.Repeat([]int{20}, count)} {
			may(t, api.Msg{Kind: api.KindHello, Ids: ids}, 10, 20, count <= api.MaxList)
		}
	}
}

func TestEachPlaceMayBeNamed(t *testing.T) {
	for place := range api.Ids {
		yes(t, api.Msg{Kind: api.KindHello, Ids: []int{place}})
		yes(t, api.Msg{Kind: api.KindHello, Ids: []int{7, place, 7}})
	}
}

// TestNoPlaceIsNamed puts one that is no place at each spot of each length.
func TestNoPlaceIsNamed(t *testing.T) {
	for _, n := range noPlaces {
		for count := 1; count <= api.MaxList+1; count++ {
			for at := range count {
				ids := slices.Repeat([]int{30}, count)
				ids[at] = n
				no(t, api.Msg{Kind: api.KindHello, Ids: ids})
			}
		}
	}
}

func TestLongLists(t *testing.T) {
	for _, kind := range kinds {
		no(t, api.Msg{Kind: kind, Ids: make([]int, 1<<20)})
		no(t, api.Msg{Kind: kind, Ids: make([]int, 1<<20), Item: of(0), Has: true})
	}
}

// TestAnEmptyListIsNone: an empty one and nil are one, for those Kinds too that name none; its spare room does not tell.
func TestAnEmptyListIsNone(t *testing.T) {
	for _, m := range someMsgs() {
		if len(m.Ids) != 0 {
			continue
		}
		m.Ids = []int{}
		yes(t, m)
		m.Ids = []int{1, 2, -3}[:0]
		yes(t, m)
	}
}

func TestItemsThatAreBrought(t *testing.T) {
	for key := range api.Ids {
		for _, i := range goodItems(key) {
			yes(t, api.Msg{Kind: api.KindItem, Item: i})
		}
	}
	for _, key := range []int{0, 5, 255} {
		for _, i := range badItems(key) {
			no(t, api.Msg{Kind: api.KindItem, Item: i})
		}
	}
	// A Key of the message's own is not named, not even the item's.
	for key := 1; key < api.Ids; key++ {
		no(t, api.Msg{Kind: api.KindItem, Key: key, Item: of(key)})
	}
}

func TestKeys(t *testing.T) {
	for key := range api.Ids {
		yes(t, api.Msg{Kind: api.KindAsk, Key: key})
		yes(t, api.Msg{Kind: api.KindTell, Key: key})
		yes(t, api.Msg{Kind: api.KindTell, Key: key, Item: of(key), Has: true})
	}
	for _, key := range noPlaces {
		no(t, api.Msg{Kind: api.KindAsk, Key: key})
		no(t, api.Msg{Kind: api.KindTell, Key: key})
		no(t, api.Msg{Kind: api.KindTell, Key: key, Item: of(key), Has: true})
		no(t, api.Msg{Kind: api.KindTell, Key: key, Item: of(5), Has: true})
	}
}

// TestKeysOfWhatIsTold holds each Key that is told against each Key of an item.
func TestKeysOfWhatIsTold(t *testing.T) {
	for key := range api.Ids {
		for other := range api.Ids {
			m := api.Msg{Kind: api.KindTell, Key: key, Item: of(other), Has: true}
			may(t, m, 10, 20, key == other)
			m.Has = false
			may(t, m, 10, 20, false)
		}
	}
}

// TestItemsThatAreTold: with Has one that may be, without it none at all.
func TestItemsThatAreTold(t *testing.T) {
	for _, key := range []int{0, 1, 5, 255} {
		for _, i := range goodItems(key) {
			yes(t, api.Msg{Kind: api.KindTell, Key: key, Item: i, Has: true})
			no(t, api.Msg{Kind: api.KindTell, Key: key, Item: i})
		}
		for _, i := range badItems(key) {
			no(t, api.Msg{Kind: api.KindTell, Key: key, Item: i, Has: true})
			no(t, api.Msg{Kind: api.KindTell, Key: key, Item: i})
		}
		no(t, api.Msg{Kind: api.KindTell, Key: key, Has: true})
	}
}

// TestAnItemThatIsNotNamedIsZero: not even one thing of it may be other.
func TestAnItemThatIsNotNamedIsZero(t *testing.T) {
	for _, i := range notQuiteZero() {
		no(t, api.Msg{Kind: api.KindHello, Item: i})
		no(t, api.Msg{Kind: api.KindHello, Ids: []int{4}, Item: i})
		for _, key := range []int{0, 1, 255} {
			no(t, api.Msg{Kind: api.KindAsk, Key: key, Item: i})
			no(t, api.Msg{Kind: api.KindTell, Key: key, Item: i})
		}
	}
}

// TestWhatAKindDoesNotNameIsZero adds to messages that may be one thing that their Kind does not name.
func TestWhatAKindDoesNotNameIsZero(t *testing.T) {
	for _, m := range someMsgs() {
		if m.Kind != api.KindHello {
			for _, id := range []int{0, 1, 255, -1} {
				other := m
				other.Ids = []int{id}
				no(t, other)
			}
		}
		if m.Kind == api.KindHello || m.Kind == api.KindItem {
			for _, key := range append([]int{1, 5, 255}, noPlaces...) {
				other := m
				other.Key = key
				no(t, other)
			}
		}
		if m.Kind != api.KindTell {
			other := m
			other.Has = true
			no(t, other)
		}
		if m.Kind == api.KindHello || m.Kind == api.KindAsk {
			for _, i := range append(goodItems(m.Key), badItems(m.Key)...) {
				other := m
				other.Item = i
				no(t, other)
				other.Has = true
				no(t, other)
			}
		}
	}
}

// fits tells the chapter's words for lists, keys and items that are one of those of TestAllTogether.
func fits(m api.Msg, itemMay bool) bool {
	noIds, noKey, noItem := len(m.Ids) == 0, m.Key == 0, m.Item == api.Item{}
	isKey := m.Key >= 0 && m.Key <= 255
	idsMay := len(m.Ids) <= 16
	for _, id := range m.Ids {
		idsMay = idsMay && id >= 0 && id <= 255
	}
	return m.Kind == 0 && idsMay && noKey && noItem && !m.Has ||
		m.Kind == 1 && noIds && noKey && itemMay && !m.Has ||
		m.Kind == 2 && noIds && isKey && noItem && !m.Has ||
		m.Kind == 3 && noIds && isKey && noItem && !m.Has ||
		m.Kind == 3 && noIds && isKey && itemMay && m.Has && m.Item.Key == m.Key
}

// TestAllTogether takes each Kind with each list, Key, item and Has.
func TestAllTogether(t *testing.T) {
	items := map[api.Item]int{{}: 0}
	for _, key := range []int{0, 5, 255} {
		for _, i := range goodItems(key)[:4] {
			items[i] = 1
		}
		for _, i := range badItems(key) {
			items[i] = 0
		}
	}
	lists := [][]int{nil, {}, {0}, {255, 0, 0}, make([]int, 16), make([]int, 17), {-1}, {3, 256}}
	for i, ok := range items {
		for _, kind := range append([]int{-1, 4}, kinds...) {
			for _, ids := range lists {
				for _, key := range []int{0, 1, 5, 255, 256, -1} {
					for _, has := range []bool{false, true} {
						m := api.Msg{Kind: kind, Ids: ids, Key: key, Item: i, Has: has}
						may(t, m, 10, 20, fits(m, ok == 1))
						may(t, m, 20, 20, false)
						may(t, m, 256, 20, false)
						may(t, m, 10, -1, false)
					}
				}
			}
		}
	}
}

// TestWhatIsHandedInStays looks at the list, and at its spare room.
func TestWhatIsHandedInStays(t *testing.T) {
	ids := []int{9, 3, 3, 255, 77, 78}
	for _, kind := range kinds {
		may(t, api.Msg{Kind: kind, Ids: ids[:4]}, 10, 20, kind == api.KindHello)
		may(t, api.Msg{Kind: kind, Ids: ids[:0]}, 10, 20, kind != api.KindItem)
	}
	if !slices.Equal(ids, []int{9, 3, 3, 255, 77, 78}) {
		t.Errorf("R4: the list, or its spare room, became %v", ids)
	}
}

func TestManyCallAtOneTime(t *testing.T) {
	msgs := someMsgs()
	var all sync.WaitGroup
	for range 8 {
		all.Add(1)
		go func() {
			defer all.Done()
			for _, m := range msgs {
				for place := range api.Ids {
					may(t, m, 10, place, place != 10)
				}
			}
		}()
	}
	all.Wait()
}
