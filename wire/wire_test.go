package wire

import (
	"math"
	"slices"
	"strings"
	"sync"
	"testing"

	"gimmal/api"
	"gimmal/msg"
)

// noPlaces are the nearest numbers beside the ring, those that a place's byte
// would hide, and those at which a difference would wrap round.
var noPlaces = []int{-1, api.Ids, -api.Ids, api.Ids + 1, 2 * api.Ids, 1 << 32, math.MinInt, math.MaxInt}

// rows are messages, and their bytes, written out by hand.
var rows = []struct {
	m api.Msg
	s string
}{
	{api.Msg{Kind: api.KindHello, From: 10, To: 20}, "\x00\x0a\x14\x00"},
	{api.Msg{Kind: api.KindHello, From: 0, To: 255, Ids: []int{0}}, "\x00\x00\xff\x01\x00"},
	{api.Msg{Kind: api.KindHello, From: 255, To: 0, Ids: []int{9, 3, 3, 255, 0}}, "\x00\xff\x00\x05\x09\x03\x03\xff\x00"},
	{api.Msg{Kind: api.KindHello, From: 1, To: 2, Ids: slices.Repeat([]int{7}, 16)}, "\x00\x01\x02\x10" + strings.Repeat("\x07", 16)},
	{api.Msg{Kind: api.KindItem, From: 1, To: 2, Item: api.Item{Version: api.Version{Count: 1}}}, "\x01\x01\x02\x00\x01\x00\x00\x00\x00\x01"},
	{api.Msg{Kind: api.KindItem, From: 1, To: 2, Item: api.Item{Key: 5, Version: api.Version{Count: 0x0302, Writer: 7}, Value: 9}}, "\x01\x01\x02\x05\x02\x03\x07\x09\x00\x1a"},
	{api.Msg{Kind: api.KindItem, From: 1, To: 2, Item: api.Item{Key: 4, Version: api.Version{Count: 256, Writer: 3}, Gone: true}}, "\x01\x01\x02\x04\x00\x01\x03\x00\x01\x09"},
	{api.Msg{Kind: api.KindItem, From: 1, To: 2, Item: api.Item{Key: 255, Version: api.Version{Count: 65535, Writer: 255}, Value: 255}}, "\x01\x01\x02\xff\xff\xff\xff\xff\x00\xfb"},
	{api.Msg{Kind: api.KindItem, From: 1, To: 2, Item: api.Item{Key: 255, Version: api.Version{Count: 65535, Writer: 255}, Gone: true}}, "\x01\x01\x02\xff\xff\xff\xff\x00\x01\xfd"},
	{api.Msg{Kind: api.KindAsk, From: 200, To: 100}, "\x02\xc8\x64\x00"},
	{api.Msg{Kind: api.KindAsk, From: 200, To: 100, Key: 255}, "\x02\xc8\x64\xff"},
	{api.Msg{Kind: api.KindTell, From: 200, To: 100}, "\x03\xc8\x64\x00\x00"},
	{api.Msg{Kind: api.KindTell, From: 200, To: 100, Key: 5}, "\x03\xc8\x64\x05\x00"},
	{api.Msg{Kind: api.KindTell, From: 200, To: 100, Key: 5, Has: true, Item: api.Item{Key: 5, Version: api.Version{Count: 2, Writer: 8}, Value: 100}}, "\x03\xc8\x64\x05\x01\x05\x02\x00\x08\x64\x00\x73"},
	{api.Msg{Kind: api.KindTell, From: 200, To: 100, Has: true, Item: api.Item{Version: api.Version{Count: 255, Writer: 1}, Gone: true}}, "\x03\xc8\x64\x00\x01\x00\xff\x00\x01\x00\x01\x01"},
}

func equal(a api.Msg, b api.Msg) bool {
	return a.Kind == b.Kind && a.From == b.From && a.To == b.To && slices.Equal(a.Ids, b.Ids) && a.Key == b.Key && a.Item == b.Item && a.Has == b.Has
}

// both holds a message and its bytes against each other, in both ways.
func both(t *testing.T, m api.Msg, s string) {
	t.Helper()
	if got, errno := Put(m); got != s || errno != api.OK {
		t.Errorf("P13.1: Put(%v): %q, %d, not %q", m, got, errno, s)
	}
	if got, errno := Get(s); !equal(got, m) || errno != api.OK {
		t.Errorf("P13.1: Get(%q): %v, %d, not %v", s, got, errno, m)
	}
}

func noBytes(t *testing.T, m api.Msg) {
	t.Helper()
	if got, errno := Put(m); got != "" || errno != api.ErrWireForm {
		t.Errorf("P13.1: Put(%v): %q, %d", m, got, errno)
	}
}

func noMsg(t *testing.T, s string) {
	t.Helper()
	if got, errno := Get(s); !equal(got, api.Msg{}) || errno != api.ErrWireForm {
		t.Errorf("P13.1: Get(%.40q): %v, %d", s, got, errno)
	}
}

func with(s string, at int, b byte) string {
	return s[:at] + string([]byte{b}) + s[at+1:]
}

func TestRows(t *testing.T) {
	for _, row := range rows {
		both(t, row.m, row.s)
	}
}

// TestEachPlace takes each unlike From and To, and for all others none.
func TestEachPlace(t *testing.T) {
	for from := range api.Ids {
		for to := range api.Ids {
			m := api.Msg{Kind: api.KindAsk, From: from, To: to, Key: 7}
			s := string([]byte{2, byte(from), byte(to), 7})
			if from == to {
				noBytes(t, m)
				noMsg(t, s)
				continue
			}
			both(t, m, s)
		}
	}
}

// TestHowManyAreNamed goes up to all that a byte may tell: more than MaxList are no message.
func TestHowManyAreNamed(t *testing.T) {
	for count := range 256 {
		m := api.Msg{From: 1, To: 2}
		bs := []byte{0, 1, 2, byte(count)}
		for n := range count {
			m.Ids = append(m.Ids, 255-n)
			bs = append(bs, byte(255-n))
		}
		if count > api.MaxList {
			noBytes(t, m)
			noMsg(t, string(bs))
			continue
		}
		both(t, m, string(bs))
		noMsg(t, string(bs)+"\x00")
		noMsg(t, string(bs)+"\x09")
		if count > 0 {
			noMsg(t, string(bs[:len(bs)-1]))
		}
	}
	noBytes(t, api.Msg{From: 1, To: 2, Ids: make([]int, 1<<20)})
	noBytes(t, api.Msg{From: 1, To: 2, Ids: make([]int, 256)})
}

func TestEachIsNamed(t *testing.T) {
	for place := range api.Ids {
		both(t, api.Msg{From: 1, To: 2, Ids: []int{place}}, string([]byte{0, 1, 2, 1, byte(place)}))
		both(t, api.Msg{From: 1, To: 2, Ids: []int{place, 3, place}}, string([]byte{0, 1, 2, 3, byte(place), 3, byte(place)}))
	}
}

// TestEachCount takes each Count, 0 too, which may not be.
func TestEachCount(t *testing.T) {
	for count := range api.MaxCount + 1 {
		low, high := byte(count&255), byte(count>>8)
		m := api.Msg{Kind: api.KindItem, From: 1, To: 2, Item: api.Item{Key: 3, Version: api.Version{Count: count, Writer: 4}, Value: 5}}
		s := string([]byte{1, 1, 2, 3, low, high, 4, 5, 0, 3 + low + high + 4 + 5})
		if count == 0 {
			noBytes(t, m)
			noMsg(t, s)
			continue
		}
		both(t, m, s)
	}
}

// TestEachByteOfAnItem takes each Key, Writer and Value, in what is brought and in what is told.
func TestEachByteOfAnItem(t *testing.T) {
	for n := range 256 {
		b := byte(n)
		one := api.Version{Count: 1, Writer: 4}
		for _, row := range []struct {
			i  api.Item
			bs []byte
		}{
			{api.Item{Key: n, Version: one, Value: 5}, []byte{b, 1, 0, 4, 5, 0, b + 10}},
			{api.Item{Key: n, Version: one, Gone: true}, []byte{b, 1, 0, 4, 0, 1, b + 6}},
			{api.Item{Key: 9, Version: api.Version{Count: 1, Writer: n}, Value: 5}, []byte{9, 1, 0, b, 5, 0, b + 15}},
			{api.Item{Key: 9, Version: one, Value: n}, []byte{9, 1, 0, 4, b, 0, b + 14}},
		} {
			both(t, api.Msg{Kind: api.KindItem, From: 1, To: 2, Item: row.i}, string(append([]byte{1, 1, 2}, row.bs...)))
			both(t, api.Msg{Kind: api.KindTell, From: 1, To: 2, Key: row.i.Key, Item: row.i, Has: true}, string(append([]byte{3, 1, 2, row.bs[0], 1}, row.bs...)))
		}
	}
}

// TestItemsThatMayNotBe: their sums are right, and still they are none.
func TestItemsThatMayNotBe(t *testing.T) {
	for _, six := range [][]byte{
		{0, 0, 0, 0, 0, 0}, {5, 0, 0, 4, 5, 0}, {5, 0, 0, 4, 0, 1},
		{5, 1, 0, 4, 1, 1}, {5, 1, 0, 4, 255, 1},
		{5, 1, 0, 4, 0, 2}, {5, 1, 0, 4, 5, 2}, {5, 1, 0, 4, 0, 255}, {5, 1, 0, 4, 0, 128},
	} {
		var sum byte
		for _, b := range six {
			sum += b
		}
		own := string(append(six, sum))
		noMsg(t, "\x01\x01\x02"+own)
		noMsg(t, "\x03\x01\x02"+own[:1]+"\x01"+own)
	}
}

// TestKeysThatAreUnlike: what is told of one key is no item of another.
func TestKeysThatAreUnlike(t *testing.T) {
	for key := range api.Ids {
		s := string([]byte{3, 1, 2, byte(key), 1, 9, 1, 0, 4, 5, 0, 19})
		if key == 9 {
			both(t, api.Msg{Kind: api.KindTell, From: 1, To: 2, Key: 9, Has: true, Item: api.Item{Key: 9, Version: api.Version{Count: 1, Writer: 4}, Value: 5}}, s)
			continue
		}
		noMsg(t, s)
	}
}

// TestEachHas: its byte is 0 or 1, with an item behind it or not.
func TestEachHas(t *testing.T) {
	own := "\x09\x01\x00\x04\x05\x00\x13"
	for has := range 256 {
		head := string([]byte{3, 1, 2, 9, byte(has)})
		if _, errno := Get(head); (errno == api.OK) != (has == 0) {
			t.Errorf("P13.1: Get(%q): %d", head, errno)
		}
		if _, errno := Get(head + own); (errno == api.OK) != (has == 1) {
			t.Errorf("P13.1: Get(%q): %d", head+own, errno)
		}
		if has > 1 {
			noMsg(t, head)
			noMsg(t, head+own)
		}
	}
}

func TestEachKind(t *testing.T) {
	for kind := 4; kind < 256; kind++ {
		for _, row := range rows {
			noMsg(t, with(row.s, 0, byte(kind)))
			m := row.m
			m.Kind = kind
			noBytes(t, m)
		}
		noMsg(t, string([]byte{byte(kind), 1, 2}))
	}
	for _, kind := range []int{-1, -4, 256, 257, 258, 259, 1 << 32, math.MinInt, math.MaxInt} {
		for _, row := range rows {
			m := row.m
			m.Kind = kind
			noBytes(t, m)
		}
	}
}

// TestASumFindsOneByte: one byte of an item that is another one is always found.
func TestASumFindsOneByte(t *testing.T) {
	for _, row := range rows {
		if row.m.Kind != api.KindItem && !row.m.Has {
			continue
		}
		for at := len(row.s) - 7; at < len(row.s); at++ {
			for b := range 256 {
				if row.s[at] != byte(b) {
					noMsg(t, with(row.s, at, byte(b)))
				}
			}
		}
	}
}

// TestTooShortOrTooLong: nothing that is cut off, or has more behind it or ahead of it, is the message.
func TestTooShortOrTooLong(t *testing.T) {
	for _, row := range rows {
		for count := range len(row.s) {
			noMsg(t, row.s[:count])
		}
		for _, more := range []string{"\x00", "\x01", "x", "\xff", "\x00\x00\x00\x00\x00\x00\x00", row.s} {
			noMsg(t, row.s+more)
		}
		noMsg(t, row.s+strings.Repeat("\x00", 1<<20))
		got, errno := Get("\x00" + row.s)
		if errno == api.OK && equal(got, row.m) {
			t.Errorf("P13.1: a byte ahead of %q is not seen", row.s)
		}
	}
	for _, s := range []string{"", "\x00", "\x00\x01", "\x00\x01\x02", "\x02\x01\x02", "\x03\x01\x02\x05", "\xc3\xa9", strings.Repeat("\xff", 1<<20), strings.Repeat("\x00", 1<<20)} {
		noMsg(t, s)
	}
}

// TestShortTexts takes each text of up to five bytes of a few, and asks that Put tells it of what Get answers;
// how many are messages is counted by the chapter's words.
func TestShortTexts(t *testing.T) {
	few := []byte{0, 1, 2, 3, 4, 255}
	texts, counts := []string{""}, []int{}
	for range 6 {
		count := 0
		longer := []string{}
		for _, s := range texts {
			m, errno := Get(s)
			if errno == api.OK {
				count++
				both(t, m, s)
			} else {
				noMsg(t, s)
			}
			for _, b := range few {
				longer = append(longer, s+string([]byte{b}))
			}
		}
		texts, counts = longer, append(counts, count)
	}
	// Of four bytes: a greeting that names none, or a key that is asked for; of five: a
	// greeting that names one, or what is told of a key that has none. 30 pairs are unlike.
	if want := []int{0, 0, 0, 0, 30 + 30*6, 30*6 + 30*6}; !slices.Equal(counts, want) {
		t.Errorf("P13.1: %v texts are messages, not %v", counts, want)
	}
}

// TestWhatMayNotBe adds to messages that may be what makes them such that may not.
func TestWhatMayNotBe(t *testing.T) {
	for _, row := range rows {
		for _, n := range noPlaces {
			for _, change := range []func(m *api.Msg){
				func(m *api.Msg) { m.From = n },
				func(m *api.Msg) { m.To = n },
				func(m *api.Msg) { m.Key = n },
				func(m *api.Msg) { m.Item.Key = n },
				func(m *api.Msg) { m.Item.Value = n },
				func(m *api.Msg) { m.Item.Version.Writer = n },
				func(m *api.Msg) { m.Item.Version.Count = min(n, -n) },
				func(m *api.Msg) { m.Ids = []int{n} },
				func(m *api.Msg) { m.To = m.From },
			} {
				m := row.m
				change(&m)
				if !msg.May(m) {
					noBytes(t, m)
				} else {
					t.Errorf("P13.1: %v may be", m)
				}
			}
		}
	}
	noBytes(t, api.Msg{})
	noBytes(t, api.Msg{To: 1, Key: 1})
	noBytes(t, api.Msg{To: 1, Has: true})
	noBytes(t, api.Msg{To: 1, Kind: api.KindItem})
	noBytes(t, api.Msg{To: 1, Kind: api.KindItem, Item: api.Item{Version: api.Version{Count: api.MaxCount + 1}}})
	noBytes(t, api.Msg{To: 1, Kind: api.KindItem, Item: api.Item{Version: api.Version{Count: api.MaxCount + 2}}})
	noBytes(t, api.Msg{To: 1, Kind: api.KindItem, Item: api.Item{Version: api.Version{Count: 1}, Value: 1, Gone: true}})
	noBytes(t, api.Msg{To: 1, Kind: api.KindAsk, Has: true})
	noBytes(t, api.Msg{To: 1, Kind: api.KindTell, Has: true})
	noBytes(t, api.Msg{To: 1, Kind: api.KindTell, Item: api.Item{Version: api.Version{Count: 1}}})
}

// TestAnEmptyListIsNone: an empty one and nil have the same bytes, for each Kind.
func TestAnEmptyListIsNone(t *testing.T) {
	for _, row := range rows {
		if len(row.m.Ids) == 0 {
			m := row.m
			m.Ids = []int{4, 5}[:0]
			both(t, m, row.s)
		}
	}
}

// TestWhatIsHandedInStays looks at the list, at its spare room, and at two answers of one text.
func TestWhatIsHandedInStays(t *testing.T) {
	ids := []int{9, 3, 3, 255, 77, 78}
	s, errno := Put(api.Msg{From: 1, To: 2, Ids: ids[:4]})
	if errno != api.OK || !slices.Equal(ids, []int{9, 3, 3, 255, 77, 78}) {
		t.Errorf("R4: the list, or its spare room, became %v, %d", ids, errno)
	}
	clear(ids)
	if s != "\x00\x01\x02\x04\x09\x03\x03\xff" {
		t.Errorf("R4: what was told became %q", s)
	}
	one, _ := Get(s)
	two, _ := Get(s)
	clear(one.Ids[:cap(one.Ids)])
	if !slices.Equal(two.Ids, []int{9, 3, 3, 255}) {
		t.Errorf("R4: two answers share a list: %v", two.Ids)
	}
	if again, errno := Get(s); !slices.Equal(again.Ids, []int{9, 3, 3, 255}) || errno != api.OK {
		t.Errorf("R5: %v, %d", again, errno)
	}
}

func TestManyCallAtOneTime(t *testing.T) {
	var all sync.WaitGroup
	for range 8 {
		all.Add(1)
		go func() {
			defer all.Done()
			for range 100 {
				for _, row := range rows {
					both(t, row.m, row.s)
					noMsg(t, row.s+"\x00")
				}
			}
		}()
	}
	all.Wait()
}
