package cuts

import (
	"math"
	"slices"
	"sync"
	"testing"

	"gimmal/api"
)

// noPlaces are the nearest numbers beside the ring, those that a place's byte
// would hide, and those at which a difference would wrap round.
var noPlaces = []int{-1, api.Ids, -api.Ids, api.Ids + 1, 2 * api.Ids, 1 << 32, math.MinInt, math.MaxInt, math.MinInt + 1, math.MaxInt - 1}

// rows answers rising cuts of all sorts, count of them: of one A, of one B, of neighbours, of the least places, of the greatest.
func rows(count int) [][]api.Cut {
	return [][]api.Cut{
		made(count, func(n int) api.Cut { return api.Cut{A: 3, B: 4 + 7*n} }),
		made(count, func(n int) api.Cut { return api.Cut{A: 7 * n, B: 254} }),
		made(count, func(n int) api.Cut { return api.Cut{A: n, B: n + 1} }),
		made(count, func(n int) api.Cut { return api.Cut{A: n / 8, B: 9 + n%8} }),
		made(count, func(n int) api.Cut { return api.Cut{A: 220 + n/4, B: 252 + n%4} }),
		// B falls where A rises.
		made(count, func(n int) api.Cut { return api.Cut{A: n, B: 255 - n} }),
	}
}

func made(count int, cut func(n int) api.Cut) []api.Cut {
	var all []api.Cut
	for n := range count {
		all = append(all, cut(n))
	}
	return all
}

// walk goes over all cuts that there can be, by A, then by B, and tells those that are in.
func walk(in func(c api.Cut) bool) []api.Cut {
	var met []api.Cut
	for a := range api.Ids {
		for b := a + 1; b < api.Ids; b++ {
			if c := (api.Cut{A: a, B: b}); in(c) {
				met = append(met, c)
			}
		}
	}
	return met
}

func may(t *testing.T, cs []api.Cut, want bool) {
	t.Helper()
	if got := May(cs); got != want {
		t.Errorf("P15.1: May(%v): %v", cs, got)
	}
}

func with(t *testing.T, cs []api.Cut, a int, b int, want []api.Cut) {
	t.Helper()
	if got, errno := With(cs, a, b); !slices.Equal(got, want) || errno != api.OK {
		t.Errorf("P15.1: With(%v, %d, %d): %v, %d, not %v", cs, a, b, got, errno, want)
	}
}

func withRefuses(t *testing.T, cs []api.Cut, a int, b int, want api.Errno) {
	t.Helper()
	if got, errno := With(cs, a, b); len(got) != 0 || errno != want {
		t.Errorf("P15.1, R2: With of %d, %d, %d: %v, %d, not %d", len(cs), a, b, got, errno, want)
	}
}

func without(t *testing.T, cs []api.Cut, a int, b int, want []api.Cut) {
	t.Helper()
	if got, errno := Without(cs, a, b); !slices.Equal(got, want) || errno != api.OK {
		t.Errorf("P15.1: Without(%v, %d, %d): %v, %d, not %v", cs, a, b, got, errno, want)
	}
}

func is(t *testing.T, cs []api.Cut, a int, b int, want bool) {
	t.Helper()
	if got, errno := Is(cs, a, b); got != want || errno != api.OK {
		t.Errorf("P15.1: Is(%v, %d, %d): %v, %d", cs, a, b, got, errno)
	}
}

// refused holds a list, and two numbers, that do not go together against all three calls.
func refused(t *testing.T, cs []api.Cut, a int, b int) {
	t.Helper()
	withRefuses(t, cs, a, b, api.ErrCutsForm)
	if got, errno := Without(cs, a, b); len(got) != 0 || errno != api.ErrCutsForm {
		t.Errorf("P15.1, R2: Without of %d, %d, %d: %v, %d", len(cs), a, b, got, errno)
	}
	if got, errno := Is(cs, a, b); got || errno != api.ErrCutsForm {
		t.Errorf("P15.1, R2: Is of %d, %d, %d: %v, %d", len(cs), a, b, got, errno)
	}
}

// mayNot holds a list that may not be against all calls: of two that are there, or not, or that are no unlike places.
func mayNot(t *testing.T, cs []api.Cut) {
	t.Helper()
	may(t, cs, false)
	for _, c := range append([]api.Cut{{A: 1, B: 2}, {A: 255, B: 0}, {A: 9, B: 9}, {A: -1, B: api.Ids}}, cs[:min(len(cs), api.MaxCuts)]...) {
		refused(t, cs, c.A, c.B)
		refused(t, cs, c.B, c.A)
	}
}

// holds asks all of a list for two places, in both orders.
func holds(t *testing.T, cs []api.Cut, a int, b int) {
	t.Helper()
	c := api.Cut{A: min(a, b), B: max(a, b)}
	there := slices.Contains(cs, c)
	with(t, cs, a, b, plus(cs, c))
	without(t, cs, a, b, minus(cs, c))
	is(t, cs, a, b, there)
}

// holdsFull asks all of a list of as many as may be.
func holdsFull(t *testing.T, cs []api.Cut, a int, b int) {
	t.Helper()
	c := api.Cut{A: min(a, b), B: max(a, b)}
	there := slices.Contains(cs, c)
	if there {
		with(t, cs, a, b, cs)
	} else {
		withRefuses(t, cs, a, b, api.ErrCutsFull)
	}
	without(t, cs, a, b, minus(cs, c))
	is(t, cs, a, b, there)
}

// plus looks for the first one that is greater, one by one.
func plus(cs []api.Cut, c api.Cut) []api.Cut {
	var out []api.Cut
	placed := false
	for _, other := range cs {
		if !placed && other.A*api.Ids+other.B >= c.A*api.Ids+c.B {
			out, placed = append(out, c), true
		}
		if other != c {
			out = append(out, other)
		}
	}
	if !placed {
		out = append(out, c)
	}
	return out
}

func minus(cs []api.Cut, c api.Cut) []api.Cut {
	var out []api.Cut
	for _, other := range cs {
		if other != c {
			out = append(out, other)
		}
	}
	return out
}

func TestSomeMayBe(t *testing.T) {
	may(t, nil, true)
	may(t, []api.Cut{}, true)
	may(t, []api.Cut{{A: 0, B: 1}}, true)
	may(t, []api.Cut{{A: 254, B: 255}}, true)
	may(t, []api.Cut{{A: 0, B: 255}}, true)
	may(t, []api.Cut{{A: 0, B: 1}, {A: 0, B: 2}, {A: 1, B: 2}}, true)
	may(t, []api.Cut{{A: 0, B: 255}, {A: 1, B: 2}}, true)
	may(t, []api.Cut{{A: 5, B: 9}, {A: 6, B: 7}, {A: 6, B: 8}}, true)
}

// TestOneMayBe holds all pairs, the numbers beside the ring too, against what the chapter says.
func TestOneMayBe(t *testing.T) {
	for a := -2; a < api.Ids+2; a++ {
		for b := -2; b < api.Ids+2; b++ {
			cs := []api.Cut{{A: a, B: b}}
			want := 0 <= a && a < b && b < api.Ids
			may(t, cs, want)
			if !want {
				refused(t, cs, 1, 2)
			}
		}
	}
}

// TestTwoMayBe holds all pairs of some cuts against their order: each stands where the walk meets it.
func TestTwoMayBe(t *testing.T) {
	some := walk(func(c api.Cut) bool { return (c.A < 4 || c.A > 251) && (c.B < 6 || c.B > 251) })
	for first, x := range some {
		for second, y := range some {
			cs := []api.Cut{x, y}
			may(t, cs, first < second)
			if first >= second {
				refused(t, cs, 1, 2)
			}
		}
	}
}

func TestSomeByHand(t *testing.T) {
	some := []api.Cut{{A: 10, B: 20}, {A: 10, B: 40}, {A: 20, B: 30}}
	with(t, nil, 7, 3, []api.Cut{{A: 3, B: 7}})
	with(t, []api.Cut{}, 0, 255, []api.Cut{{A: 0, B: 255}})
	with(t, some, 30, 10, []api.Cut{{A: 10, B: 20}, {A: 10, B: 30}, {A: 10, B: 40}, {A: 20, B: 30}})
	with(t, some, 20, 25, []api.Cut{{A: 10, B: 20}, {A: 10, B: 40}, {A: 20, B: 25}, {A: 20, B: 30}})
	with(t, some, 255, 0, []api.Cut{{A: 0, B: 255}, {A: 10, B: 20}, {A: 10, B: 40}, {A: 20, B: 30}})
	with(t, some, 254, 255, []api.Cut{{A: 10, B: 20}, {A: 10, B: 40}, {A: 20, B: 30}, {A: 254, B: 255}})
	with(t, some, 40, 10, some)
	with(t, some, 10, 40, some)
	without(t, some, 10, 40, []api.Cut{{A: 10, B: 20}, {A: 20, B: 30}})
	without(t, some, 40, 10, []api.Cut{{A: 10, B: 20}, {A: 20, B: 30}})
	without(t, some, 20, 40, some)
	without(t, []api.Cut{{A: 3, B: 7}}, 7, 3, nil)
	without(t, nil, 7, 3, nil)
	without(t, []api.Cut{}, 7, 3, nil)
	is(t, some, 10, 20, true)
	is(t, some, 20, 10, true)
	is(t, some, 30, 20, true)
	is(t, some, 30, 10, false)
	is(t, some, 20, 40, false)
	is(t, nil, 0, 1, false)
}

// TestEachPair asks for each two unlike places, in both orders.
func TestEachPair(t *testing.T) {
	for _, cs := range append(rows(5), nil) {
		for a := range api.Ids {
			for b := range api.Ids {
				if a != b {
					holds(t, cs, a, b)
				}
			}
		}
	}
}

// TestEachLength asks for what is there, and for its nearest neighbours, in both orders.
func TestEachLength(t *testing.T) {
	for count := range api.MaxCuts {
		for _, cs := range rows(count) {
			may(t, cs, true)
			for _, c := range append(cs, api.Cut{A: 0, B: 1}, api.Cut{A: 254, B: 255}) {
				for _, b := range []int{c.B - 1, c.B, c.B + 1} {
					if b != c.A && b < api.Ids {
						holds(t, cs, c.A, b)
						holds(t, cs, b, c.A)
					}
				}
			}
		}
	}
}

// TestAsManyAsMayBe: none is new there; what is there already stays, and may be taken out.
func TestAsManyAsMayBe(t *testing.T) {
	for _, cs := range rows(api.MaxCuts) {
		may(t, cs, true)
		with(t, cs[:api.MaxCuts-1], cs[api.MaxCuts-1].B, cs[api.MaxCuts-1].A, cs)
		for _, c := range walk(func(c api.Cut) bool { return c.A%5 == 0 || slices.Contains(cs, c) }) {
			holdsFull(t, cs, c.A, c.B)
			holdsFull(t, cs, c.B, c.A)
		}
		// What are no unlike places is told ahead of the list's being full.
		for _, n := range append([]int{5, 0, 255}, noPlaces...) {
			refused(t, cs, n, n)
		}
	}
}

func TestNoUnlikePlaces(t *testing.T) {
	lists := [][]api.Cut{nil, {}, {{A: 0, B: 1}}, {{A: 0, B: 255}}, {{A: 10, B: 20}, {A: 10, B: 40}, {A: 20, B: 30}}}
	for _, cs := range append(lists, rows(api.MaxCuts)...) {
		for id := range api.Ids {
			refused(t, cs, id, id)
		}
		for _, n := range noPlaces {
			for _, other := range append([]int{0, 1, 10, 255}, noPlaces...) {
				refused(t, cs, n, other)
				refused(t, cs, other, n)
			}
		}
	}
}

// TestCutsThatMayNotBe are refused by themselves, and at each spot.
func TestCutsThatMayNotBe(t *testing.T) {
	bad := []api.Cut{{}, {A: 5, B: 5}, {A: 255, B: 255}, {A: 6, B: 5}, {A: 255, B: 0}}
	for _, n := range noPlaces {
		bad = append(bad, api.Cut{A: n, B: 5}, api.Cut{A: 5, B: n}, api.Cut{A: n, B: n}, api.Cut{A: n, B: 255}, api.Cut{A: 0, B: n})
	}
	for _, c := range bad {
		mayNot(t, []api.Cut{c})
		for _, count := range []int{2, 3, api.MaxCuts} {
			for _, cs := range rows(count) {
				for at := range cs {
					old := cs[at]
					cs[at] = c
					mayNot(t, cs)
					cs[at] = old
				}
			}
		}
	}
}

// TestBadOnesInTheirOrder: where the numbers rise, they are refused by being no places alone.
func TestBadOnesInTheirOrder(t *testing.T) {
	for _, n := range noPlaces {
		if n < 0 {
			mayNot(t, []api.Cut{{A: n, B: 20}, {A: 10, B: 20}, {A: 30, B: 40}})
			continue
		}
		mayNot(t, []api.Cut{{A: 10, B: 20}, {A: 10, B: n}, {A: 30, B: 40}})
		mayNot(t, []api.Cut{{A: 10, B: 20}, {A: 30, B: 40}, {A: 30, B: n}})
	}
	mayNot(t, []api.Cut{{A: -5, B: -4}, {A: 10, B: 20}})
	mayNot(t, []api.Cut{{A: 10, B: 20}, {A: 256, B: 257}})
}

func TestNoneByTheirOrder(t *testing.T) {
	mayNot(t, []api.Cut{{A: 5, B: 7}, {A: 5, B: 6}})
	mayNot(t, []api.Cut{{A: 5, B: 7}, {A: 5, B: 7}})
	mayNot(t, []api.Cut{{A: 5, B: 7}, {A: 4, B: 8}})
	mayNot(t, []api.Cut{{A: 5, B: 7}, {A: 4, B: 9}, {A: 6, B: 7}})
	mayNot(t, []api.Cut{{A: 1, B: 2}, {A: 1, B: 4}, {A: 1, B: 2}})
	for _, count := range []int{2, 5, api.MaxCuts} {
		for which := range rows(count) {
			for at := range count - 1 {
				cs := rows(count)[which]
				cs[at], cs[at+1] = cs[at+1], cs[at]
				mayNot(t, cs)
				cs[at] = cs[at+1]
				mayNot(t, cs)
			}
		}
	}
}

func TestNoneByTheirLength(t *testing.T) {
	all := walk(func(c api.Cut) bool { return true })
	for count := api.MaxCuts + 1; count <= 4*api.MaxCuts; count++ {
		mayNot(t, all[:count])
		mayNot(t, all[len(all)-count:])
	}
	for _, cs := range rows(api.MaxCuts + 1) {
		mayNot(t, cs)
	}
	mayNot(t, all)
	mayNot(t, make([]api.Cut, 1<<20))
}

// TestWhoDoesNotHearWhom walks on by cutting and healing, held against all that was cut.
func TestWhoDoesNotHearWhom(t *testing.T) {
	var cs []api.Cut
	in := map[api.Cut]int{}
	full := 0
	for n := range 3000 {
		a, b := n*n%11, (n*n*n+5*n)%13
		c := api.Cut{A: min(a, b), B: max(a, b)}
		if a == b {
			refused(t, cs, a, b)
			continue
		}
		next, errno := With(cs, a, b)
		if n%7 < 2 {
			next, errno = Without(cs, b, a)
			delete(in, c)
		} else if in[c] == 0 && len(in) == api.MaxCuts {
			withRefuses(t, cs, a, b, api.ErrCutsFull)
			full++
			continue
		} else {
			in[c] = 1
		}
		want := walk(func(c api.Cut) bool { return c.B < 13 && in[c] == 1 })
		if !slices.Equal(next, want) || errno != api.OK || !May(next) {
			t.Fatalf("P15.1: behind number %d: %v, %d, not %v", n, next, errno, want)
		}
		is(t, next, b, a, in[c] == 1)
		cs = next
	}
	if full == 0 {
		t.Error("the walk never fills the cuts")
	}
}

// clobber writes over a list and its spare room.
func clobber(cs []api.Cut) {
	cs = cs[:cap(cs)]
	for at := range cs {
		cs[at] = api.Cut{A: -9, B: -9}
	}
}

// leaves holds a call that is given whole's first three against R4.
func leaves(t *testing.T, a int, b int, call func(cs []api.Cut, a int, b int) ([]api.Cut, api.Errno)) {
	t.Helper()
	whole := []api.Cut{{A: 10, B: 20}, {A: 10, B: 40}, {A: 20, B: 30}, {A: 77, B: 7}, {A: 78, B: 8}}
	old := slices.Clone(whole)
	first, _ := call(whole[:3], a, b)
	second, _ := call(whole[:3], a, b)
	want := slices.Clone(second)
	if !slices.Equal(whole, old) {
		t.Errorf("R4: %d, %d: the list, or its spare room, became %v", a, b, whole)
	}
	clobber(first)
	if !slices.Equal(whole, old) || !slices.Equal(second, want) {
		t.Errorf("R4: %d, %d: an answer shares memory: %v, %v", a, b, whole, second)
	}
	clobber(whole)
	if !slices.Equal(second, want) {
		t.Errorf("R4: %d, %d: an answer shares memory with what was handed in: %v", a, b, second)
	}
}

// TestWhatIsHandedInStays takes those that are not there, ahead, between and behind, and each that is there.
func TestWhatIsHandedInStays(t *testing.T) {
	for _, c := range []api.Cut{{A: 0, B: 1}, {A: 10, B: 20}, {A: 10, B: 30}, {A: 10, B: 40}, {A: 15, B: 16}, {A: 20, B: 30}, {A: 20, B: 31}, {A: 254, B: 255}} {
		for _, call := range []func(cs []api.Cut, a int, b int) ([]api.Cut, api.Errno){With, Without} {
			leaves(t, c.A, c.B, call)
			leaves(t, c.B, c.A, call)
		}
	}
}

// TestIsAndMayLeaveWhatIsHandedIn looks at the spare room too, and at lists that may not be.
func TestIsAndMayLeaveWhatIsHandedIn(t *testing.T) {
	whole := []api.Cut{{A: 10, B: 20}, {A: 10, B: 40}, {A: 20, B: 10}, {A: 20, B: 10}, {A: 1, B: 2}}
	old := slices.Clone(whole)
	for count := range whole {
		May(whole[:count])
		Is(whole[:count], 40, 10)
		With(whole[:count], 40, 11)
		Without(whole[:count], 40, 10)
	}
	if !slices.Equal(whole, old) {
		t.Errorf("R4: what was handed in became %v", whole)
	}
}

// TestAnEmptyListsSpareRoomStays: an empty list of some room is handed in.
func TestAnEmptyListsSpareRoomStays(t *testing.T) {
	whole := []api.Cut{{A: 10, B: 20}, {A: 20, B: 30}}
	with(t, whole[:0], 25, 15, []api.Cut{{A: 15, B: 25}})
	without(t, whole[:0], 20, 10, nil)
	is(t, whole[:0], 20, 10, false)
	got, _ := Without(whole[:0], 20, 10)
	clobber(got)
	if !slices.Equal(whole, []api.Cut{{A: 10, B: 20}, {A: 20, B: 30}}) {
		t.Errorf("R4: the spare room became %v", whole)
	}
}

func TestManyCallAtOneTime(t *testing.T) {
	cs := rows(api.MaxCuts - 1)[3]
	var all sync.WaitGroup
	for range 8 {
		all.Add(1)
		go func() {
			defer all.Done()
			for a := range 20 {
				for b := range 20 {
					if a != b {
						holds(t, cs, a, b)
					} else {
						refused(t, cs, a, b)
					}
				}
			}
		}()
	}
	all.Wait()
}
