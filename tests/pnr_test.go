package tests

import (
	"cmp"
	"math"
	"math/rand"
	"reflect"
	"regexp"
	"slices"
	"strconv"
	"strings"
	"testing"

	"loop.example/g00755/impl"
)

const (
	mostHouses = 4
	mostNames  = 4
	mostHolds  = 4
	mostLoc    = 9
	mostList   = 400
)

// hold writes a Hold out short: col is the letter's place.
func hold(flight string, row, col int64) impl.Hold {
	return impl.Hold{Flight: flight, Seat: impl.Seat{Row: row, Col: col}}
}

// holdOrder is HoldLess told in another way.
func holdOrder(a, b impl.Hold) int {
	return cmp.Or(strings.Compare(a.Flight, b.Flight), cmp.Compare(a.Seat.Row, b.Seat.Row), cmp.Compare(a.Seat.Col, b.Seat.Col))
}

// risingHolds are n holds, each greater than the one ahead of it: of flights f0, f1 and so on, of 100 each.
func risingHolds(n int) []impl.Hold {
	l := make([]impl.Hold, n)
	for i := range l {
		l[i] = hold("f"+strconv.Itoa(i/100), int64(i%100/5+1), int64(i%5))
	}
	return l
}

// basePnr is a right booking that has something in each field.
func basePnr() impl.Pnr {
	return impl.Pnr{Home: 1, Loc: 2, Owner: 3, Names: []string{"ann", "bob"},
		Holds: []impl.Hold{hold("ab1", 1, 0), hold("ab1", 1, 1), hold("cd2", 20, 5)}, Live: true, Offer: 2}
}

const baseText = "1.2 of 3 live to 2 +ann +bob ab1:1a ab1:1b cd2:20f"

// changed gives basePnr with one thing changed.
func changed(change func(p *impl.Pnr)) impl.Pnr {
	p := basePnr()
	change(&p)
	return p
}

// writtenPnr is PnrText of a right booking told in another way.
func writtenPnr(p impl.Pnr) string {
	words := []string{strconv.Itoa(int(p.Home)) + "." + strconv.Itoa(int(p.Loc)), "of", strconv.Itoa(int(p.Owner)), "gone"}
	if p.Live {
		words[3] = "live"
	}
	if p.Offer != 0 {
		words = append(words, "to", strconv.Itoa(int(p.Offer)))
	}
	for _, name := range p.Names {
		words = append(words, "+"+name)
	}
	for _, h := range p.Holds {
		words = append(words, h.Flight+":"+writtenSeat(h.Seat))
	}
	return strings.Join(words, " ")
}

// someNames are lists of guests, from none to the most.
func someNames() [][]string {
	return [][]string{nil, {}, {"ann"}, {"0"}, {"zz", "aa"}, {"ann", "ann", "ann"}, {"a", "b", "c", "d"}, {"to", "of", "live", "gone"}, {rep("z", 8), "9", "1a", "a1"}}
}

// someHolds are lists of holds, from none to the most.
func someHolds() [][]impl.Hold {
	return [][]impl.Hold{nil, {}, {hold("ab1", 1, 0)}, {hold("0", 20, 5)}, {hold(rep("z", 8), 12, 2)},
		{hold("ab1", 2, 0), hold("ab1", 2, 1)}, {hold("ab1", 2, 5), hold("ab1", 10, 0)}, {hold("ab", 9, 5), hold("ab1", 1, 0), hold("b", 1, 0)},
		{hold("a", 1, 0), hold("a", 1, 1), hold("a", 2, 0), hold("aa", 1, 0)}, {hold("live", 1, 0), hold("to", 1, 0)}}
}

// somePnrs are right bookings: each Home, Loc, Owner, Offer there is, live and gone, with guests and holds of any number.
func somePnrs() []impl.Pnr {
	var l []impl.Pnr
	names, holds := someNames(), someHolds()
	for home := int64(1); home <= mostHouses; home++ {
		for loc := int64(1); loc <= mostLoc; loc++ {
			for owner := int64(1); owner <= mostHouses; owner++ {
				for offer := int64(0); offer <= mostHouses; offer++ {
					p := impl.Pnr{Home: home, Loc: loc, Owner: owner, Names: names[len(l)%len(names)]}
					l = append(l, p)
					if offer != owner {
						p.Offer, p.Live, p.Holds = offer, true, holds[len(l)%len(holds)]
						l = append(l, p)
					}
				}
			}
		}
	}
	for _, some := range names {
		for _, held := range holds {
			for offer := int64(0); offer <= 1; offer++ {
				l = append(l, impl.Pnr{Home: 4, Loc: 9, Owner: 2, Names: some, Holds: held, Live: true, Offer: offer})
			}
		}
	}
	return l
}

type wrongPnr struct {
	what string
	pnr  impl.Pnr
}

// wrongPnrs have each a fault.
func wrongPnrs() []wrongPnr {
	l := []wrongPnr{
		{"the zero one", impl.Pnr{}},
		{"the zero one that is live", impl.Pnr{Live: true}},
		{"no Home", impl.Pnr{Loc: 1, Owner: 1}},
		{"no Loc", impl.Pnr{Home: 1, Owner: 1}},
		{"no Owner", impl.Pnr{Home: 1, Loc: 1}},
		{"Offer at Owner", changed(func(p *impl.Pnr) { p.Offer = p.Owner })},
		{"Offer at Owner, which made it", changed(func(p *impl.Pnr) { p.Owner, p.Offer = 1, 1 })},
		{"gone with holds and an offer", changed(func(p *impl.Pnr) { p.Live = false })},
		{"gone with holds", changed(func(p *impl.Pnr) { p.Live, p.Offer = false, 0 })},
		{"gone with one hold", changed(func(p *impl.Pnr) { p.Live, p.Offer, p.Holds = false, 0, p.Holds[:1] })},
		{"gone with an offer", changed(func(p *impl.Pnr) { p.Live, p.Holds = false, nil })},
		{"gone with an offer to no house", changed(func(p *impl.Pnr) { p.Live, p.Holds, p.Offer = false, nil, -1 })},
		{"one name too many", changed(func(p *impl.Pnr) { p.Names = []string{"a", "b", "c", "d", "e"} })},
		{"very many names", changed(func(p *impl.Pnr) { p.Names = slices.Repeat([]string{"a"}, mostList+1) })},
		{"gone with one name too many", impl.Pnr{Home: 1, Loc: 1, Owner: 1, Names: []string{"a", "b", "c", "d", "e"}}},
		{"one hold too many", changed(func(p *impl.Pnr) { p.Holds = risingHolds(mostHolds + 1) })},
		{"very many holds", changed(func(p *impl.Pnr) { p.Holds = risingHolds(mostList + 1) })},
	}
	for _, n := range []int64{math.MinInt64, -1, 0, mostHouses + 1, 1<<32 + 1, math.MaxInt64} {
		at := " at " + strconv.Itoa(int(n))
		l = append(l, wrongPnr{"Home" + at, changed(func(p *impl.Pnr) { p.Home = n })}, wrongPnr{"Owner" + at, changed(func(p *impl.Pnr) { p.Owner = n })})
		if n != 0 {
			l = append(l, wrongPnr{"Offer" + at, changed(func(p *impl.Pnr) { p.Offer = n })})
		}
	}
	for _, n := range []int64{math.MinInt64, -1, 0, mostLoc + 1, 1<<32 + 1, math.MaxInt64} {
		l = append(l, wrongPnr{"Loc at " + strconv.Itoa(int(n)), changed(func(p *impl.Pnr) { p.Loc = n })})
	}
	return append(append(l, wrongGuests()...), wrongHolds()...)
}

// wrongGuests have among their Names one that is no word.
func wrongGuests() []wrongPnr {
	var l []wrongPnr
	for _, name := range []string{"", "A", "a b", "a ", "+a", "a_b", "ab1:1a", "aé", rep("a", 9), rep("a", limit+1)} {
		for place := 0; place < mostNames; place++ {
			names := []string{"a", "b", "c", "d"}
			names[place] = name
			l = append(l, wrongPnr{"a name that is no word, " + shown(name), changed(func(p *impl.Pnr) { p.Names = names })})
		}
		l = append(l, wrongPnr{"gone with a name that is no word, " + shown(name), impl.Pnr{Home: 1, Loc: 1, Owner: 1, Names: []string{name}}})
	}
	return l
}

// wrongHolds have Holds that do not rise, or one of no word or no right seat.
func wrongHolds() []wrongPnr {
	a, b, c, d := hold("ab", 1, 0), hold("ab", 1, 1), hold("ab", 2, 0), hold("ab1", 1, 0)
	var l []wrongPnr
	for _, holds := range [][]impl.Hold{{b, a}, {c, b}, {d, c}, {d, a}, {a, a}, {a, a, b}, {a, b, b}, {b, a, c, d}, {a, c, b, d}, {a, b, d, c}, {a, b, c, c}, {d, c, b, a}} {
		l = append(l, wrongPnr{"holds that do not rise", changed(func(p *impl.Pnr) { p.Holds = holds })})
	}
	bad := []impl.Hold{{}, {Flight: "ab"}, {Seat: impl.Seat{Row: 1}}}
	for _, flight := range []string{"", "A", "a b", "a:", "ab ", rep("a", 9), rep("a", limit+1)} {
		bad = append(bad, hold(flight, 1, 0))
	}
	for _, seat := range wrongSeats() {
		bad = append(bad, impl.Hold{Flight: "ab", Seat: seat})
	}
	for _, x := range bad {
		for place := 0; place < mostHolds; place++ {
			holds := []impl.Hold{a, b, c, d}
			holds[place] = x
			slices.SortFunc(holds, holdOrder)
			l = append(l, wrongPnr{"a hold of no word or no right seat", changed(func(p *impl.Pnr) { p.Holds = holds })})
		}
		l = append(l, wrongPnr{"a lone hold of no word or no right seat", changed(func(p *impl.Pnr) { p.Holds = []impl.Hold{x} })})
	}
	return l
}

// sameHolds tells whether two lists are alike, none and an empty one too.
func sameHolds(a, b []impl.Hold) bool {
	return slices.Equal(a, b)
}

// alike is PnrSame told in another way.
func alike(a, b impl.Pnr) bool {
	for _, p := range []*impl.Pnr{&a, &b} {
		p.Names = append([]string{}, p.Names...)
		p.Holds = append([]impl.Hold{}, p.Holds...)
	}
	return reflect.DeepEqual(a, b)
}

func wantPut(t *testing.T, l []impl.Hold, x impl.Hold, want []impl.Hold) {
	t.Helper()
	was := slices.Clone(l)
	got := impl.HoldPut(l, x)
	if !sameHolds(got, want) {
		t.Errorf("HoldPut(%v, %v): got %v, want %v", l, x, got, want)
	}
	if !sameHolds(l, was) {
		t.Errorf("HoldPut(%v, %v): its argument is %v behind it", was, x, l)
	}
}

func wantPnrRead(t *testing.T, text string, want impl.PnrOut) {
	t.Helper()
	if got := impl.PnrRead(text); got.Code != want.Code || !alike(got.Pnr, want.Pnr) {
		t.Errorf("PnrRead(%.80q): got %+v, want %+v", text, got, want)
	}
}

func TestPnrLimits(t *testing.T) {
	got := [4]int64{impl.MaxHouses, impl.MaxNames, impl.MaxHolds, impl.MaxLoc}
	if want := [4]int64{mostHouses, mostNames, mostHolds, mostLoc}; got != want {
		t.Errorf("limits: got %v, want %v", got, want)
	}
}

func TestHoldLess(t *testing.T) {
	for _, c := range []struct {
		what string
		a, b impl.Hold
	}{
		{"the Flight alone", hold("ab1", 2, 2), hold("ab2", 2, 2)},
		{"the Flight ahead of Row and Col", hold("ab1", 9, 5), hold("ab2", 1, 0)},
		{"a Flight that begins the other one", hold("ab", 9, 5), hold("ab1", 1, 0)},
		{"an empty Flight", hold("", 9, 5), hold("a", 1, 0)},
		{"a shorter Flight that is greater", hold("ab1", 1, 0), hold("b", 1, 0)},
		{"a digit ahead of a letter", hold("9", 1, 0), hold("a", 1, 0)},
		{"bytes above 127", hold("a", 1, 0), hold("\xff", 1, 0)},
		{"the Row alone", hold("ab1", 2, 2), hold("ab1", 3, 2)},
		{"the Row as a number", hold("ab1", 9, 2), hold("ab1", 10, 2)},
		{"the Row ahead of the Col", hold("ab1", 2, 5), hold("ab1", 3, 0)},
		{"the Col alone", hold("ab1", 2, 2), hold("ab1", 2, 3)},
		{"Rows that no seat has", hold("ab1", math.MinInt64, 0), hold("ab1", math.MaxInt64, 0)},
		{"Cols that no seat has", hold("ab1", 1, math.MinInt64), hold("ab1", 1, math.MaxInt64)},
		{"Flights of more than the limit", hold(rep("a", limit+1), 1, 1), hold(rep("a", limit+1)+"a", 1, 0)},
	} {
		t.Run(c.what, func(t *testing.T) {
			if !impl.HoldLess(c.a, c.b) {
				t.Error("the lesser one is not less")
			}
			if impl.HoldLess(c.b, c.a) {
				t.Error("the greater one is less")
			}
			if impl.HoldLess(c.a, c.a) || impl.HoldLess(c.b, c.b) {
				t.Error("one is less than itself")
			}
		})
	}
}

func TestHoldLessOfAnyTwo(t *testing.T) {
	var l []impl.Hold
	for _, flight := range []string{"", "a", "ab", "ab1", "b", "0"} {
		for row := int64(-1); row <= 11; row += 4 {
			for col := int64(0); col <= 2; col++ {
				l = append(l, hold(flight, row, col))
			}
		}
	}
	for _, a := range l {
		for _, b := range l {
			if got, want := impl.HoldLess(a, b), holdOrder(a, b) < 0; got != want {
				t.Errorf("HoldLess(%v, %v): got %v", a, b, got)
			}
		}
	}
}

func TestHoldPutInItsPlace(t *testing.T) {
	a, b, c := hold("ab", 9, 5), hold("ab1", 1, 1), hold("b", 1, 0)
	for _, d := range []struct {
		what string
		l    []impl.Hold
		x    impl.Hold
		want []impl.Hold
	}{
		{"into none", nil, b, []impl.Hold{b}},
		{"into an empty list", []impl.Hold{}, b, []impl.Hold{b}},
		{"ahead of one", []impl.Hold{b}, a, []impl.Hold{a, b}},
		{"behind one", []impl.Hold{b}, c, []impl.Hold{b, c}},
		{"ahead of all", []impl.Hold{b, c}, a, []impl.Hold{a, b, c}},
		{"between two", []impl.Hold{a, c}, b, []impl.Hold{a, b, c}},
		{"behind all", []impl.Hold{a, b}, c, []impl.Hold{a, b, c}},
		{"by the Col alone", []impl.Hold{hold("ab1", 1, 0), hold("ab1", 1, 2)}, b, []impl.Hold{hold("ab1", 1, 0), b, hold("ab1", 1, 2)}},
		{"the only one, again", []impl.Hold{b}, b, []impl.Hold{b}},
		{"the first one, again", []impl.Hold{a, b, c}, a, []impl.Hold{a, b, c}},
		{"one in the middle, again", []impl.Hold{a, b, c}, b, []impl.Hold{a, b, c}},
		{"the last one, again", []impl.Hold{a, b, c}, c, []impl.Hold{a, b, c}},
		{"more than a booking has", risingHolds(mostHolds), hold("z", 1, 0), append(risingHolds(mostHolds), hold("z", 1, 0))},
		{"ahead of the first that is not less, where none rise", []impl.Hold{a, c, a}, b, []impl.Hold{a, b, c, a}},
		{"one that is there behind a greater one", []impl.Hold{c, b, a}, b, []impl.Hold{c, b, a}},
		{"one that is there twice", []impl.Hold{b, b}, b, []impl.Hold{b, b}},
		{"a hold of no word and no seat", []impl.Hold{a}, impl.Hold{}, []impl.Hold{{}, a}},
		{"a Flight of more than the limit", []impl.Hold{b}, hold(rep("a", limit+1), 1, 0), []impl.Hold{hold(rep("a", limit+1), 1, 0), b}},
	} {
		t.Run(d.what, func(t *testing.T) {
			wantPut(t, d.l, d.x, d.want)
		})
	}
}

func TestHoldPutOfListsAtTheLimit(t *testing.T) {
	most := risingHolds(mostList)
	more := risingHolds(mostList + 1)
	first, last := hold("a", 1, 0), hold("z", 1, 0)
	wantPut(t, most[:mostList-1], last, append(slices.Clone(most[:mostList-1]), last))
	wantPut(t, most, last, append(slices.Clone(most), last))
	wantPut(t, most, first, append([]impl.Hold{first}, most...))
	wantPut(t, most, most[0], most)
	wantPut(t, most, most[mostList-1], most)
	wantPut(t, more, last, nil)
	wantPut(t, more, first, nil)
	wantPut(t, more, more[0], nil)
	wantPut(t, more, more[mostList], nil)
	wantPut(t, make([]impl.Hold, mostList+1), impl.Hold{}, nil)
}

// TestHoldsThatArePutInAreThereOnceAndRise puts in holds by chance, and some of them again.
func TestHoldsThatArePutInAreThereOnceAndRise(t *testing.T) {
	r := rand.New(rand.NewSource(4))
	flights := []string{"a", "ab", "ab1", "b"}
	for round := 0; round < 60; round++ {
		var l, model []impl.Hold
		for n := 0; n < 60; n++ {
			x := hold(flights[r.Intn(len(flights))], int64(1+r.Intn(4)), int64(r.Intn(4)))
			model = append(model, x)
			slices.SortFunc(model, holdOrder)
			model = slices.Compact(model)
			wantPut(t, l, x, model)
			l = impl.HoldPut(l, x)
		}
		for i := 1; i < len(l); i++ {
			if !impl.HoldLess(l[i-1], l[i]) {
				t.Errorf("%v stands ahead of %v", l[i-1], l[i])
			}
		}
	}
}

func TestHoldPutLeavesWhatStandsBehindItsArgument(t *testing.T) {
	whole := risingHolds(8)
	was := slices.Clone(whole)
	for size := 0; size < len(whole); size++ {
		for _, x := range []impl.Hold{hold("a", 1, 0), hold("f0", 1, 9), hold("z", 1, 0), whole[0]} {
			got := impl.HoldPut(whole[:size], x)
			for i := range got[:cap(got)] {
				got[:cap(got)][i] = impl.Hold{Flight: "turned"}
			}
			if !sameHolds(whole, was) {
				t.Fatalf("of %d holds, and %v: behind it stands %v", size, x, whole)
			}
		}
	}
}

func TestHoldPutGivesNewMemory(t *testing.T) {
	long := rep("h", 300)
	l := []impl.Hold{hold(long, 1, 0), hold(long, 3, 0)}
	for _, x := range []impl.Hold{hold(rep("h", 300), 2, 0), hold(rep("a", 300), 1, 0), hold(rep("z", 300), 1, 0), l[0], l[1]} {
		for _, got := range impl.HoldPut(l, x) {
			if sharesMemory(got.Flight, long) || sharesMemory(got.Flight, x.Flight) {
				t.Errorf("with %v: memory of an argument is given out", x.Seat)
			}
		}
	}
}

func TestPnrRight(t *testing.T) {
	for _, p := range append(somePnrs(), basePnr()) {
		if !impl.PnrRight(p) {
			t.Errorf("%+v is right", p)
		}
	}
	for _, c := range wrongPnrs() {
		if impl.PnrRight(c.pnr) {
			t.Errorf("%s: that is not right", c.what)
		}
	}
}

func TestPnrRightAtItsEdges(t *testing.T) {
	for n := int64(-2); n <= 12; n++ {
		house := n >= 1 && n <= 4
		for _, c := range []struct {
			what string
			pnr  impl.Pnr
			want bool
		}{
			{"Home", impl.Pnr{Home: n, Loc: 1, Owner: 1}, house},
			{"Loc", impl.Pnr{Home: 1, Loc: n, Owner: 1}, n >= 1 && n <= 9},
			{"Owner", impl.Pnr{Home: 1, Loc: 1, Owner: n}, house},
			{"Offer", impl.Pnr{Home: 1, Loc: 1, Owner: 1, Live: true, Offer: n}, n == 0 || house && n != 1},
			{"Offer of what is gone", impl.Pnr{Home: 1, Loc: 1, Owner: 1, Offer: n}, n == 0},
			{"Offer to the Home", impl.Pnr{Home: 3, Loc: 1, Owner: 4, Live: true, Offer: n}, n == 0 || n >= 1 && n <= 3},
		} {
			if got := impl.PnrRight(c.pnr); got != c.want {
				t.Errorf("%s at %d: got %v", c.what, n, got)
			}
		}
	}
	for n := 0; n <= 6; n++ {
		guests := impl.Pnr{Home: 1, Loc: 1, Owner: 1, Names: slices.Repeat([]string{"ann"}, n)}
		if got := impl.PnrRight(guests); got != (n <= 4) {
			t.Errorf("of %d names: got %v", n, got)
		}
		held := impl.Pnr{Home: 1, Loc: 1, Owner: 1, Live: true, Holds: risingHolds(n)}
		if got := impl.PnrRight(held); got != (n <= 4) {
			t.Errorf("of %d holds: got %v", n, got)
		}
		held.Live = false
		if got := impl.PnrRight(held); got != (n == 0) {
			t.Errorf("of %d holds, gone: got %v", n, got)
		}
	}
}

func TestPnrText(t *testing.T) {
	for _, c := range []struct {
		pnr  impl.Pnr
		want string
	}{
		{basePnr(), baseText},
		{impl.Pnr{Home: 1, Loc: 1, Owner: 1}, "1.1 of 1 gone"},
		{impl.Pnr{Home: 4, Loc: 9, Owner: 4, Live: true}, "4.9 of 4 live"},
		{impl.Pnr{Home: 4, Loc: 9, Owner: 1, Names: []string{"9"}}, "4.9 of 1 gone +9"},
		{impl.Pnr{Home: 2, Loc: 3, Owner: 1, Live: true, Offer: 4}, "2.3 of 1 live to 4"},
		{impl.Pnr{Home: 2, Loc: 3, Owner: 1, Live: true, Holds: []impl.Hold{hold("zz", 20, 5)}}, "2.3 of 1 live zz:20f"},
		{impl.Pnr{Home: 2, Loc: 3, Owner: 1, Live: true, Names: []string{"b", "a", "b"}}, "2.3 of 1 live +b +a +b"},
	} {
		if got := impl.PnrText(c.pnr); got != c.want {
			t.Errorf("PnrText(%+v): got %q, want %q", c.pnr, got, c.want)
		}
		wantPnrRead(t, c.want, impl.PnrOut{Pnr: c.pnr})
	}
	for _, c := range wrongPnrs() {
		if got := impl.PnrText(c.pnr); got != "" {
			t.Errorf("%s: got %.80q", c.what, got)
		}
	}
}

func TestBookingsComeBackFromTheirTexts(t *testing.T) {
	for _, p := range somePnrs() {
		text := impl.PnrText(p)
		if text != writtenPnr(p) {
			t.Errorf("PnrText(%+v): got %q, want %q", p, text, writtenPnr(p))
		}
		wantPnrRead(t, text, impl.PnrOut{Pnr: p})
		if !impl.PnrSame(impl.PnrRead(text).Pnr, p) {
			t.Errorf("%q: what comes back is not the same", text)
		}
	}
}

type namedText struct {
	what string
	text string
}

func wantNoPnr(t *testing.T, texts []namedText) {
	t.Helper()
	for _, c := range texts {
		t.Run(c.what, func(t *testing.T) {
			wantPnrRead(t, c.text, impl.PnrOut{Code: badSyntax})
		})
	}
}

func TestPnrReadRefusesOtherParts(t *testing.T) {
	wantNoPnr(t, []namedText{
		{"the empty text", ""},
		{"the booking alone", "1.1"},
		{"without its state", "1.1 of 1"},
		{"without its owner", "1.1 of live"},
		{"without its house", ".1 of 1 live"},
		{"without its number", "1. of 1 live"},
		{"without a point", "11 of 1 live"},
		{"with two points", "1..1 of 1 live"},
		{"with a third number", "1.1.1 of 1 live"},
		{"without of", "1.1 1 live"},
		{"with another word for of", "1.1 to 1 live"},
		{"of in upper case", "1.1 OF 1 live"},
		{"with another word for its state", "1.1 of 1 here"},
		{"a state in upper case", "1.1 of 1 Live"},
		{"both states", "1.1 of 1 live gone"},
		{"a nought byte behind", "1.1 of 1 live\x00"},
		{"bytes behind", "1.1 of 1 live x"},
		{"a booking behind", "1.1 of 1 live 1.1 of 1 live"},
		{"an offer ahead of the state", "1.1 of 1 to 2 live"},
	})
}

func TestPnrReadRefusesBlanksTooManyOrTooFew(t *testing.T) {
	wantNoPnr(t, []namedText{
		{"a blank alone", " "},
		{"blanks alone", "    "},
		{"with a blank for its state", "1.1 of 1 "},
		{"a blank ahead", " 1.1 of 1 live"},
		{"a blank behind", "1.1 of 1 live "},
		{"two blanks behind the booking", "1.1  of 1 live"},
		{"two blanks ahead of the owner", "1.1 of  1 live"},
		{"two blanks ahead of the state", "1.1 of 1  live"},
		{"two blanks ahead of the offer", "1.1 of 1 live  to 2"},
		{"two blanks within the offer", "1.1 of 1 live to  2"},
		{"two blanks ahead of a name", "1.1 of 1 live  +a"},
		{"two blanks ahead of a hold", "1.1 of 1 live  a:1a"},
		{"two blanks between holds", "1.1 of 1 live a:1a  a:1b"},
		{"no blank behind the booking", "1.1of 1 live"},
		{"no blank ahead of the owner", "1.1 of1 live"},
		{"no blank ahead of the state", "1.1 of 1live"},
		{"no blank ahead of the offer", "1.1 of 1 liveto 2"},
		{"no blank within the offer", "1.1 of 1 live to2"},
		{"no blank ahead of a name", "1.1 of 1 live+a"},
		{"no blank between names", "1.1 of 1 live +a+b"},
		{"no blank ahead of a hold", "1.1 of 1 livea:1a"},
		{"no blank between holds", "1.1 of 1 live a:1aa:1b"},
		{"a tab for a blank", "1.1\tof 1 live"},
		{"a line feed behind", "1.1 of 1 live\n"},
		{"a line feed for a blank", "1.1 of 1 live\n+a"},
		{"very many blanks", "1.1 of 1 live" + rep(" ", limit-13)},
	})
}

func TestPnrReadRefusesOtherNumbers(t *testing.T) {
	wantNoPnr(t, []namedText{
		{"a nought ahead of the house", "01.1 of 1 live"},
		{"a nought ahead of the number", "1.01 of 1 live"},
		{"a nought ahead of the owner", "1.1 of 01 live"},
		{"a nought ahead of the offer", "1.1 of 1 live to 02"},
		{"a nought ahead of the row", "1.1 of 1 live a:01a"},
		{"a plus sign ahead of the house", "+1.1 of 1 live"},
		{"a plus sign ahead of the number", "1.+1 of 1 live"},
		{"a plus sign ahead of the owner", "1.1 of +1 live"},
		{"a plus sign ahead of the offer", "1.1 of 1 live to +2"},
		{"a minus sign", "-1.1 of 1 live"},
		{"a house of 0", "0.1 of 1 live"},
		{"a house of one above the most", "5.1 of 1 live"},
		{"a number of 0", "1.0 of 1 live"},
		{"a number of one above the most", "1.10 of 1 live"},
		{"an owner of 0", "1.1 of 0 live"},
		{"an owner of one above the most", "1.1 of 5 live"},
		{"an owner of 2^64 and 1", "1.1 of 18446744073709551617 live"},
		{"an offer of 0", "1.1 of 1 live to 0"},
		{"an offer of one above the most", "1.1 of 1 live to 5"},
		{"an offer to the owner", "1.1 of 1 live to 1"},
		{"an offer to none", "1.1 of 1 live to"},
		{"an offer to nothing", "1.1 of 1 live to "},
		{"an offer to no number", "1.1 of 1 live to x"},
		{"two offers", "1.1 of 1 live to 2 to 2"},
		{"an offer of what is gone", "1.1 of 1 gone to 2"},
		{"a hold of what is gone", "1.1 of 1 gone a:1a"},
		{"very many digits", "1." + rep("9", limit-12) + " of 1 live"},
		{"a text of the limit", rep("1", limit)},
	})
}

func TestPnrReadRefusesOtherNamesAndHolds(t *testing.T) {
	wantNoPnr(t, []namedText{
		{"bytes behind a hold", "1.1 of 1 live a:1a."},
		{"an offer behind a name", "1.1 of 1 live +a to 2"},
		{"an offer behind a hold", "1.1 of 1 live a:1a to 2"},
		{"a name ahead of the state", "1.1 of 1 +a live"},
		{"a name ahead of the offer", "1.1 of 1 live +a to 2 +b"},
		{"a name behind a hold", "1.1 of 1 live a:1a +a"},
		{"a name between holds", "1.1 of 1 live a:1a +a a:1b"},
		{"a name without its mark", "1.1 of 1 live a"},
		{"a name with two marks", "1.1 of 1 live ++a"},
		{"a mark without a name", "1.1 of 1 live +"},
		{"a name in upper case", "1.1 of 1 live +A"},
		{"a name of nine bytes", "1.1 of 1 live +abcdefghi"},
		{"one name too many", "1.1 of 1 live +a +b +c +d +e"},
		{"holds that do not rise", "1.1 of 1 live a:1b a:1a"},
		{"holds whose rows do not rise", "1.1 of 1 live a:10a a:9a"},
		{"holds whose flights do not rise", "1.1 of 1 live ab1:1a ab:1a"},
		{"holds that are alike", "1.1 of 1 live a:1a a:1a"},
		{"one hold too many", "1.1 of 1 live a:1a a:1b a:1c a:1d a:1e"},
		{"a hold without a flight", "1.1 of 1 live :1a"},
		{"a hold without a seat", "1.1 of 1 live a:"},
		{"a hold without its mark", "1.1 of 1 live a1a"},
		{"a hold with two marks", "1.1 of 1 live a::1a"},
		{"a hold of two seats", "1.1 of 1 live a:1a:1b"},
		{"a hold of a flight that is no word", "1.1 of 1 live A:1a"},
		{"a hold of a flight of nine bytes", "1.1 of 1 live abcdefghi:1a"},
		{"a hold of no right seat", "1.1 of 1 live a:21a"},
		{"a hold of no column", "1.1 of 1 live a:1g"},
		{"the offer's word for a name", "1.1 of 1 live to +a"},
		{"very many names", "1.1 of 1 live" + rep(" +a", 2662)},
	})
}

func TestPnrReadOfTextsOfMoreThanTheLimit(t *testing.T) {
	for _, text := range []string{rep("1", limit+1), rep(" ", limit+1), baseText + rep(" ", limit+1-len(baseText)), rep(baseText, 400)} {
		wantPnrRead(t, text, impl.PnrOut{Code: badSize})
		wantPnrRead(t, text[:limit], impl.PnrOut{Code: badSyntax})
	}
}

var pnrForm = regexp.MustCompile(`\A([1-4])\.[1-9] of ([1-4]) (live|gone)(?: to ([1-4]))?((?: \+[a-z0-9]{1,8}){0,4})((?: [a-z0-9]{1,8}:(?:[1-9]|1[0-9]|20)[a-f]){0,4})\z`)

// isPnrText tells in another way whether a text is that of a right booking.
func isPnrText(text string) bool {
	m := pnrForm.FindStringSubmatch(text)
	if m == nil || m[2] == m[4] || m[3] == "gone" && (m[4] != "" || m[6] != "") {
		return false
	}
	holds := strings.Fields(m[6])
	for i := 1; i < len(holds); i++ {
		if holdOrder(writtenHold(holds[i-1]), writtenHold(holds[i])) >= 0 {
			return false
		}
	}
	return true
}

// writtenHold turns a text of the form that isPnrText asks for back into a hold.
func writtenHold(text string) impl.Hold {
	flight, seat, _ := strings.Cut(text, ":")
	row, _ := strconv.Atoi(seat[:len(seat)-1])
	return hold(flight, int64(row), int64(seat[len(seat)-1]-'a'))
}

// TestPnrReadOfTextsThatAreNearlyRight takes each byte out, turns it, and puts others ahead of it.
func TestPnrReadOfTextsThatAreNearlyRight(t *testing.T) {
	right, wrong := 0, 0
	try := func(text string) {
		got := impl.PnrRead(text)
		if !isPnrText(text) {
			wrong++
			wantPnrRead(t, text, impl.PnrOut{Code: badSyntax})
			return
		}
		right++
		if got.Code != ok || writtenPnr(got.Pnr) != text {
			t.Errorf("PnrRead(%q): got %+v", text, got)
		}
	}
	for _, text := range []string{baseText, "1.1 of 1 gone", "1.1 of 1 gone +a +b", "4.9 of 2 live", "2.2 of 2 live to 3", "3.1 of 2 live a:9a a:10a ab:1a b:1a", "1.1 of 1 live +a +b +c +d a:1a"} {
		try(text)
		for at := 0; at <= len(text); at++ {
			try(text[:at])
			for _, b := range " .:+0123459abfgtogone_\n\x00é" {
				try(text[:at] + string(b) + text[at:])
				if at < len(text) {
					try(text[:at] + string(b) + text[at+1:])
				}
			}
			for end := at + 1; end <= len(text); end++ {
				try(text[:at] + text[end:])
				try(text[:end] + text[at:])
			}
		}
	}
	if right < 300 || wrong < 3000 {
		t.Errorf("%d right texts and %d wrong ones were tried", right, wrong)
	}
}

func TestPnrReadGivesNewMemory(t *testing.T) {
	text := impl.PnrText(impl.Pnr{Home: 1, Loc: 1, Owner: 1, Names: []string{"abcdefgh", "ijklmnop"}, Live: true,
		Holds: []impl.Hold{hold("abcdefgh", 1, 0), hold("ijklmnop", 1, 0)}})
	p := impl.PnrRead(text).Pnr
	for _, name := range p.Names {
		if sharesMemory(name, text) {
			t.Error("a name is given out that is memory of the argument")
		}
	}
	for _, h := range p.Holds {
		if sharesMemory(h.Flight, text) {
			t.Error("a flight is given out that is memory of the argument")
		}
	}
	clear(p.Names)
	clear(p.Holds)
	wantPnrRead(t, text, impl.PnrOut{Pnr: impl.Pnr{Home: 1, Loc: 1, Owner: 1, Names: []string{"abcdefgh", "ijklmnop"}, Live: true,
		Holds: []impl.Hold{hold("abcdefgh", 1, 0), hold("ijklmnop", 1, 0)}}})
}

func TestPnrTextGivesNewMemory(t *testing.T) {
	p := impl.Pnr{Home: 1, Loc: 1, Owner: 1, Names: []string{rep("n", 8)}, Live: true, Holds: []impl.Hold{hold(rep("h", 8), 1, 0)}}
	text := impl.PnrText(p)
	if sharesMemory(p.Names[0], text) || sharesMemory(p.Holds[0].Flight, text) {
		t.Error("the text is memory of the argument")
	}
}

func TestBookingsThatAreHandedInStayAsTheyWere(t *testing.T) {
	p := basePnr()
	p.Names = append(p.Names, "carl", "dora")[:2]
	p.Holds = append(p.Holds, hold("zz", 1, 1))[:3]
	impl.PnrRight(p)
	impl.PnrText(p)
	impl.PnrSame(p, basePnr())
	if !alike(p, basePnr()) || !slices.Equal(p.Names[:4], []string{"ann", "bob", "carl", "dora"}) || p.Holds[:4][3] != hold("zz", 1, 1) {
		t.Errorf("behind all calls it is %+v", p)
	}
	wrong := changed(func(p *impl.Pnr) { slices.Reverse(p.Holds) })
	impl.PnrRight(wrong)
	impl.PnrText(wrong)
	impl.PnrSame(wrong, p)
	if !alike(wrong, changed(func(p *impl.Pnr) { slices.Reverse(p.Holds) })) {
		t.Errorf("behind all calls the one that is not right is %+v", wrong)
	}
}

func TestPnrSameOfTwoThatDifferInOneField(t *testing.T) {
	base := basePnr()
	if !impl.PnrSame(base, basePnr()) || !impl.PnrSame(base, base) {
		t.Error("two that are alike are told apart")
	}
	for _, c := range []struct {
		what string
		pnr  impl.Pnr
	}{
		{"Home", changed(func(p *impl.Pnr) { p.Home = 2 })},
		{"Loc", changed(func(p *impl.Pnr) { p.Loc = 3 })},
		{"Owner", changed(func(p *impl.Pnr) { p.Owner = 1 })},
		{"Live", changed(func(p *impl.Pnr) { p.Live = false })},
		{"Offer", changed(func(p *impl.Pnr) { p.Offer = 4 })},
		{"no Offer", changed(func(p *impl.Pnr) { p.Offer = 0 })},
		{"no Names", changed(func(p *impl.Pnr) { p.Names = nil })},
		{"one of the Names", changed(func(p *impl.Pnr) { p.Names[1] = "bab" })},
		{"the first of the Names", changed(func(p *impl.Pnr) { p.Names[0] = "an" })},
		{"one of the Names less", changed(func(p *impl.Pnr) { p.Names = p.Names[:1] })},
		{"one of the Names more", changed(func(p *impl.Pnr) { p.Names = append(p.Names, "carl") })},
		{"the order of the Names", changed(func(p *impl.Pnr) { slices.Reverse(p.Names) })},
		{"no Holds", changed(func(p *impl.Pnr) { p.Holds = nil })},
		{"the Flight of a Hold", changed(func(p *impl.Pnr) { p.Holds[2].Flight = "cd3" })},
		{"the Row of a Hold", changed(func(p *impl.Pnr) { p.Holds[2].Seat.Row = 19 })},
		{"the Col of a Hold", changed(func(p *impl.Pnr) { p.Holds[2].Seat.Col = 4 })},
		{"the first of the Holds", changed(func(p *impl.Pnr) { p.Holds[0].Flight = "ab" })},
		{"one of the Holds less", changed(func(p *impl.Pnr) { p.Holds = p.Holds[:2] })},
		{"one of the Holds more", changed(func(p *impl.Pnr) { p.Holds = append(p.Holds, hold("zz", 1, 0)) })},
		{"the order of the Holds", changed(func(p *impl.Pnr) { slices.Reverse(p.Holds) })},
		{"all", impl.Pnr{}},
	} {
		t.Run(c.what, func(t *testing.T) {
			if impl.PnrSame(base, c.pnr) || impl.PnrSame(c.pnr, base) {
				t.Error("two that differ are the same")
			}
		})
	}
}

func TestPnrSameOfNoneAndAnEmptyList(t *testing.T) {
	none := impl.Pnr{Home: 1, Loc: 1, Owner: 1}
	empty := impl.Pnr{Home: 1, Loc: 1, Owner: 1, Names: []string{}, Holds: []impl.Hold{}}
	if !impl.PnrSame(none, empty) || !impl.PnrSame(empty, none) {
		t.Error("none and an empty list are told apart")
	}
}

func TestPnrSameOfAnyTwo(t *testing.T) {
	all := somePnrs()
	for i := 0; i < len(all); i += 7 {
		for j := 0; j < len(all); j += 5 {
			if got, want := impl.PnrSame(all[i], all[j]), alike(all[i], all[j]); got != want {
				t.Errorf("PnrSame(%+v, %+v): got %v", all[i], all[j], got)
			}
		}
	}
}

// TestPnrSameOfBookingsThatAreNotRight: it asks for alike fields, and for no more.
func TestPnrSameOfBookingsThatAreNotRight(t *testing.T) {
	for _, c := range wrongPnrs() {
		other := c.pnr
		other.Names, other.Holds = slices.Clone(c.pnr.Names), slices.Clone(c.pnr.Holds)
		if !impl.PnrSame(c.pnr, other) {
			t.Errorf("%s: two that are alike are told apart", c.what)
		}
		other.Loc--
		if impl.PnrSame(c.pnr, other) {
			t.Errorf("%s: two that differ in Loc are the same", c.what)
		}
	}
}
