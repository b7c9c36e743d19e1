package tests

import (
	"fmt"
	"math"
	"math/rand"
	"reflect"
	"slices"
	"strconv"
	"strings"
	"testing"

	"loop.example/g00755/impl"
)

// noHouses are numbers that are no house's.
var noHouses = []int64{math.MinInt64, -1 << 32, -1, 0, mostHouses + 1, 6, 1<<32 + 1, math.MaxInt64}

// seenBy is ViewOf of a right host and a house told in another way.
func seenBy(h impl.Host, house int64) impl.View {
	v := impl.View{House: house, Flights: h.Flights, Entries: h.Audits[house-1].Entries, Next: 1, Now: h.Now}
	for _, p := range h.Pnrs {
		switch house {
		case p.Owner:
			v.Pnrs = append(v.Pnrs, p)
		case p.Offer:
			v.Offers = append(v.Offers, impl.Entry{Kind: 6, Home: p.Home, Loc: p.Loc})
		}
		if p.Home == house {
			v.Next = p.Loc + 1
		}
	}
	for _, token := range h.Tokens {
		if token.House == house {
			v.Tokens = append(v.Tokens, token)
		}
	}
	for _, f := range h.Flights {
		v.Maps = append(v.Maps, modelledMap(&h, f.Name).Text)
	}
	return viewCopy(v)
}

// viewCopy gives a view that shares no list with v, and has none where v has an empty one.
func viewCopy(v impl.View) impl.View {
	c := impl.View{House: v.House, Next: v.Next, Now: v.Now}
	c.Flights, c.Offers, c.Tokens = append(c.Flights, v.Flights...), append(c.Offers, v.Offers...), append(c.Tokens, v.Tokens...)
	c.Entries, c.Maps = append(c.Entries, v.Entries...), append(c.Maps, v.Maps...)
	for _, p := range v.Pnrs {
		p.Names, p.Holds = append([]string(nil), p.Names...), append([]impl.Hold(nil), p.Holds...)
		c.Pnrs = append(c.Pnrs, p)
	}
	return c
}

// sameViews is ViewSame told in another way.
func sameViews(a, b impl.View) bool {
	return reflect.DeepEqual(viewCopy(a), viewCopy(b))
}

// wantView also looks whether what is handed in stays as it was.
func wantView(t *testing.T, what string, h impl.Host, house int64, want impl.View) {
	t.Helper()
	was := hostCopy(h)
	if got := impl.ViewOf(h, house); !sameViews(got, want) {
		t.Errorf("%s, house %d: got %.1500v, want %.1500v", what, house, got, want)
	}
	if !sameHosts(h, was) {
		t.Errorf("%s, house %d: the argument is %.1500v behind it", what, house, h)
	}
}

// wantSame holds ViewSame against what is wanted, both ways round, and looks whether both stay as they were.
func wantSame(t *testing.T, what string, a, b impl.View, want bool) {
	t.Helper()
	wasA, wasB := viewCopy(a), viewCopy(b)
	if one, other := impl.ViewSame(a, b), impl.ViewSame(b, a); one != want || other != want {
		t.Errorf("%s: got %v and %v, want %v of %.700v, %.700v", what, one, other, want, a, b)
	}
	if !sameViews(a, wasA) || !sameViews(b, wasB) {
		t.Errorf("%s: the arguments are %.700v, %.700v behind it", what, a, b)
	}
}

func wantHouse(t *testing.T, what string, h impl.Host, r impl.Req, want int64) {
	t.Helper()
	was, req := hostCopy(h), r
	if got := impl.HouseOf(h, r); got != want {
		t.Errorf("HouseOf %s, %.300s: got %d, want %d", what, fmt.Sprintf("%#v", r), got, want)
	}
	if !sameHosts(h, was) || r != req {
		t.Errorf("HouseOf %s: the arguments are %.700v, %.300s behind it", what, h, fmt.Sprintf("%#v", r))
	}
}

// deskViews are what houses 1 to 4 see of deskHost, written out by hand.
func deskViews() []impl.View {
	h := deskHost()
	maps := []string{"xx...x", "x", "xxxx" + rep(".", 115) + "x"}
	return []impl.View{
		{House: 1, Flights: h.Flights, Pnrs: pnrsOf("1.1 of 1 live to 2 +ann ab1:1a cd2:20f", "1.2 of 1 live +a +b +c +d", "1.3 of 1 gone +eve",
			"1.5 of 1 live cd2:1a cd2:1b cd2:1c cd2:1d", "2.1 of 1 live +zed"),
			Offers: []impl.Entry{{Kind: 6, Home: 2, Loc: 2}, {Kind: 6, Home: 3, Loc: 1}},
			Tokens: []impl.Token{{No: 1, House: 1, Role: 3, Till: 50}, {No: 5, House: 1, Role: 1, Till: 50}, {No: 6, House: 1, Role: 2, Till: 50},
				{No: 7, House: 1, Role: 3, Till: 20}, {No: 8, House: 1, Role: 3, Till: 19}}, // 8 shows no more
			Entries: []impl.Entry{{Kind: 1, Home: 1, Loc: 1}, {Kind: 2, Home: 1, Loc: 1}}, Maps: maps, Next: 6, Now: 20},
		{House: 2, Flights: h.Flights, Pnrs: pnrsOf("1.4 of 2 live +bob ab1:2c", "2.2 of 2 live to 1 b:1a", "2.3 of 2 gone"),
			Offers: []impl.Entry{{Kind: 6, Home: 1, Loc: 1}},
			Tokens: []impl.Token{{No: 2, House: 2, Role: 3, Till: 50}, {No: 12, House: 2, Role: 1, Till: 20}, {No: mostNo, House: 2, Role: 2, Till: 20}},
			Maps:   maps, Next: 4, Now: 20},
		{House: 3, Flights: h.Flights, Pnrs: pnrsOf("3.1 of 3 live to 1 ab1:1b"), Tokens: []impl.Token{{No: 3, House: 3, Role: 3, Till: 50}},
			Entries: []impl.Entry{{Kind: 7, Home: 1, Loc: 1}}, Maps: maps, Next: 2, Now: 20},
		{House: 4, Flights: h.Flights, Tokens: []impl.Token{{No: 4, House: 4, Role: 3, Till: lastTime}}, Maps: maps, Next: 1, Now: 20},
	}
}

func TestViewsByHand(t *testing.T) {
	views := deskViews()
	for i, want := range views {
		wantView(t, "deskHost", deskHost(), int64(i)+1, want)
		if model := seenBy(deskHost(), int64(i)+1); !sameViews(model, want) {
			t.Errorf("the model tells %+v", model)
		}
		for j, other := range views {
			wantSame(t, fmt.Sprintf("houses %d and %d", i+1, j+1), want, other, i == j)
		}
	}
}

// edgeHosts are right hosts at the edges that a view has.
func edgeHosts() []impl.Host {
	all := deskWith(func(h *impl.Host) {
		h.Flights = h.Flights[:2]
		h.Pnrs = pnrsOf("1.1 of 1 live ab1:1a ab1:1c ab1:2b b:1a", "2.1 of 2 live ab1:1b ab1:2a ab1:2c")
	})
	gone := deskWith(func(h *impl.Host) {
		h.Pnrs = pnrsOf("1.1 of 1 gone", "1.2 of 2 gone +ann", "2.1 of 1 gone", "3.1 of 2 gone")
	})
	taken := deskWith(func(h *impl.Host) {
		h.Pnrs = pnrsOf("1.1 of 2 live", "1.2 of 3 live", "2.1 of 1 live to 2", "3.1 of 1 live to 2", "4.1 of 3 gone")
	})
	given := deskWith(func(h *impl.Host) {
		h.Pnrs = pnrsOf("1.1 of 1 live to 4", "1.2 of 2 live to 4 +ann b:1a", "3.1 of 3 live to 4", "4.1 of 1 live to 4")
	})
	past := deskWith(func(h *impl.Host) { h.Now = lastTime })
	most := deskWith(func(h *impl.Host) { h.Pnrs = allPnrs() })
	l := []impl.Host{deskHost(), logHost(), noAudit(), all, gone, taken, given, past, most, newHost(nil), newHost(deskHost().Flights)}
	for _, n := range []int{mostList - 1, mostList} {
		l = append(l, fullAudit(n))
	}
	for house := int64(1); house <= mostHouses; house++ {
		l = append(l, owning(house, "olgolgolg"), owning(house, "lllllllll"))
	}
	return l
}

func TestViewOfRightHosts(t *testing.T) {
	for i, h := range append(rightHosts(), edgeHosts()...) {
		if !impl.HostRight(h) {
			t.Fatalf("host %d is not right: %.700v", i, h)
		}
		for house := int64(1); house <= mostHouses; house++ {
			wantView(t, fmt.Sprintf("host %d", i), h, house, seenBy(h, house))
		}
	}
}

func TestViewOfHostsByChance(t *testing.T) {
	r := rand.New(rand.NewSource(10))
	for range 400 {
		h := someHost(r)
		offeredSome(r, &h)
		for house := int64(1); house <= mostHouses; house++ {
			wantView(t, "by chance", h, house, seenBy(h, house))
		}
		if t.Failed() {
			t.FailNow()
		}
	}
}

func TestViewOfNoHouse(t *testing.T) {
	for _, h := range append(rightHosts(), edgeHosts()...) {
		for _, house := range noHouses {
			wantView(t, "no house", h, house, impl.View{})
		}
	}
}

func TestViewOfHostsThatAreNotRight(t *testing.T) {
	for _, c := range wrongHosts() {
		for house := int64(-1); house <= mostHouses+1; house++ {
			wantView(t, c.what, c.host, house, impl.View{})
		}
	}
}

// TestBookingsInViews writes out what there is of bookings of each sort.
func TestBookingsInViews(t *testing.T) {
	h := deskWith(func(h *impl.Host) {
		h.Pnrs = pnrsOf("1.1 of 2 live to 1 +ann ab1:1a", "1.2 of 3 gone +bob", "2.1 of 1 live to 3", "2.2 of 1 gone", "3.1 of 1 live to 2 b:1a", "3.2 of 2 live to 3")
	})
	offer := func(home, loc int64) impl.Entry { return impl.Entry{Kind: impl.RqOffer, Home: home, Loc: loc} }
	for house, want := range []impl.View{1: {Pnrs: pnrsOf("2.1 of 1 live to 3", "2.2 of 1 gone", "3.1 of 1 live to 2 b:1a"), Offers: []impl.Entry{offer(1, 1)}, Next: 3},
		2: {Pnrs: pnrsOf("1.1 of 2 live to 1 +ann ab1:1a", "3.2 of 2 live to 3"), Offers: []impl.Entry{offer(3, 1)}, Next: 3},
		3: {Pnrs: pnrsOf("1.2 of 3 gone +bob"), Offers: []impl.Entry{offer(2, 1), offer(3, 2)}, Next: 3}, 4: {Next: 1}} {
		if house == 0 {
			continue
		}
		got := impl.ViewOf(h, int64(house))
		got = impl.View{Pnrs: got.Pnrs, Offers: got.Offers, Next: got.Next}
		wantSame(t, fmt.Sprintf("house %d", house), got, want, true)
		if !sameViews(got, want) {
			t.Errorf("house %d: got %+v, want %+v", house, got, want)
		}
	}
}

func TestMapsInViews(t *testing.T) {
	flights := []impl.Flight{{Name: "a", Rows: 1, Cols: 2}, {Name: "b", Rows: 2, Cols: 2}, {Name: "c", Rows: 1, Cols: 1}}
	for _, c := range []struct {
		flights []impl.Flight
		pnrs    []string
		want    []string
	}{
		{nil, nil, nil},
		{nil, []string{"1.1 of 1 live"}, nil},
		{flights[:1], nil, []string{".."}},
		{flights, nil, []string{"..", "....", "."}},
		{flights, []string{"1.1 of 1 live a:1b b:1a b:2b"}, []string{".x", "x..x", "."}},
		{flights, []string{"1.1 of 1 live a:1b", "2.1 of 3 live b:2a c:1a"}, []string{".x", "..x.", "x"}},
		{flights, []string{"1.1 of 1 live b:1a b:1b c:1a", "4.1 of 2 live a:1a a:1b b:2a b:2b"}, []string{"xx", "xxxx", "x"}},
	} {
		h := newHost(c.flights)
		h.Pnrs = pnrsOf(c.pnrs...)
		for house := int64(1); house <= mostHouses; house++ {
			if got := impl.ViewOf(h, house); !slices.Equal(got.Maps, c.want) || !slices.Equal(got.Flights, c.flights) {
				t.Errorf("%v, house %d: got %q of %v, want %q", c.pnrs, house, got.Maps, got.Flights, c.want)
			}
		}
	}
}

func TestTheRestOfAViewAtItsEdges(t *testing.T) {
	for n := range mostLoc + 1 {
		h := deskWith(func(h *impl.Host) { h.Pnrs = allPnrs()[:n] })
		if got := impl.ViewOf(h, 1).Next; got != int64(n)+1 {
			t.Errorf("with %d bookings Next is %d", n, got)
		}
	}
	for _, now := range []int64{0, 1, 19, 20, 21, lastTime} {
		h := deskWith(func(h *impl.Host) { h.Now = now })
		if got := impl.ViewOf(h, 1); got.Now != now || len(got.Tokens) != 5 {
			t.Errorf("at %d: got %d tokens, and Now %d", now, len(got.Tokens), got.Now)
		}
	}
	if got := impl.ViewOf(fullAudit(mostList), 1).Entries; !slices.Equal(got, entriesUpTo(mostList)) {
		t.Errorf("of an audit that is full %d entries are told", len(got))
	}
	if got := impl.ViewOf(fullAudit(mostList), 2).Entries; len(got) != 0 {
		t.Errorf("of the audit of another house is told %v", got)
	}
}

// baseView is a view with two items and more in each list. It may be no host's.
func baseView() impl.View {
	return impl.View{House: 2, Flights: []impl.Flight{{Name: "ab1", Rows: 2, Cols: 3}, {Name: "cd2", Rows: 1, Cols: 1}},
		Pnrs:   pnrsOf("1.2 of 2 live to 3 +ann +bob ab1:1a ab1:1b", "2.1 of 2 gone +eve", "2.2 of 2 live"),
		Offers: []impl.Entry{{Kind: 6, Home: 1, Loc: 3}, {Kind: 6, Home: 3, Loc: 1}}, Tokens: []impl.Token{{No: 2, House: 2, Role: 3, Till: 50}, {No: 4, House: 2, Role: 1, Till: 60}},
		Entries: []impl.Entry{{Kind: 1, Home: 2, Loc: 1}, {Kind: 7, Home: 1, Loc: 2}}, Maps: []string{"xx....", "."}, Next: 3, Now: 20}
}

// viewTurns are changes of baseView, each of one field alone.
func viewTurns() map[string]func(v *impl.View) {
	turns := map[string]func(v *impl.View){
		"House": func(v *impl.View) { v.House = 3 }, "House -2": func(v *impl.View) { v.House = -2 }, "no House": func(v *impl.View) { v.House = 0 },
		"Next": func(v *impl.View) { v.Next++ }, "no Next": func(v *impl.View) { v.Next = 0 }, "Now": func(v *impl.View) { v.Now-- }, "no Now": func(v *impl.View) { v.Now = 0 },
		"no Flights": func(v *impl.View) { v.Flights = nil }, "no Pnrs": func(v *impl.View) { v.Pnrs = nil }, "no Offers": func(v *impl.View) { v.Offers = nil },
		"no Tokens": func(v *impl.View) { v.Tokens = nil }, "no Entries": func(v *impl.View) { v.Entries = nil }, "no Maps": func(v *impl.View) { v.Maps = nil },
		"Flights turned round": func(v *impl.View) { slices.Reverse(v.Flights) }, "Pnrs turned round": func(v *impl.View) { slices.Reverse(v.Pnrs) },
		"Offers turned round": func(v *impl.View) { slices.Reverse(v.Offers) }, "Tokens turned round": func(v *impl.View) { slices.Reverse(v.Tokens) },
		"Entries turned round": func(v *impl.View) { slices.Reverse(v.Entries) }, "Maps turned round": func(v *impl.View) { slices.Reverse(v.Maps) },
		"Offers and Entries exchanged": func(v *impl.View) { v.Offers, v.Entries = v.Entries, v.Offers },
		"a Flight more":                func(v *impl.View) { v.Flights = append(v.Flights, impl.Flight{}) }, "a Pnr more": func(v *impl.View) { v.Pnrs = append(v.Pnrs, impl.Pnr{}) },
		"an Offer more": func(v *impl.View) { v.Offers = append(v.Offers, impl.Entry{}) }, "a Token more": func(v *impl.View) { v.Tokens = append(v.Tokens, impl.Token{}) },
		"an Entry more": func(v *impl.View) { v.Entries = append(v.Entries, impl.Entry{}) }, "a Map more": func(v *impl.View) { v.Maps = append(v.Maps, "") },
		"Pnr, Names turned round": func(v *impl.View) { slices.Reverse(v.Pnrs[0].Names) }, "Pnr, no Holds": func(v *impl.View) { v.Pnrs[0].Holds = nil },
		"Pnr, Holds turned round": func(v *impl.View) { slices.Reverse(v.Pnrs[0].Holds) }, "Pnr, a Name less": func(v *impl.View) { v.Pnrs[0].Names = v.Pnrs[0].Names[:1] },
		"Pnr, a Name more": func(v *impl.View) { v.Pnrs[2].Names = []string{""} }, "Pnr, a Hold more": func(v *impl.View) { v.Pnrs[2].Holds = []impl.Hold{{}} },
	}
	for i := range 2 {
		at := " " + strconv.Itoa(i) + ", "
		turns["Flight"+at+"Name"] = func(v *impl.View) { v.Flights[i].Name += "0" }
		turns["Flight"+at+"Rows"] = func(v *impl.View) { v.Flights[i].Rows++ }
		turns["Flight"+at+"Cols"] = func(v *impl.View) { v.Flights[i].Cols++ }
		turns["Pnr"+at+"Home"] = func(v *impl.View) { v.Pnrs[i].Home++ }
		turns["Pnr"+at+"Loc"] = func(v *impl.View) { v.Pnrs[i].Loc++ }
		turns["Pnr"+at+"Owner"] = func(v *impl.View) { v.Pnrs[i].Owner++ }
		turns["Pnr"+at+"Live"] = func(v *impl.View) { v.Pnrs[i].Live = !v.Pnrs[i].Live }
		turns["Pnr"+at+"Offer"] = func(v *impl.View) { v.Pnrs[i].Offer++ }
		turns["Pnr"+at+"one of the Names"] = func(v *impl.View) { v.Pnrs[i].Names[0] += "0" }
		turns["Pnr"+at+"no Names"] = func(v *impl.View) { v.Pnrs[i].Names = nil }
		turns["Hold"+at+"Flight"] = func(v *impl.View) { v.Pnrs[0].Holds[i].Flight = "ab" }
		turns["Hold"+at+"Row"] = func(v *impl.View) { v.Pnrs[0].Holds[i].Seat.Row++ }
		turns["Hold"+at+"Col"] = func(v *impl.View) { v.Pnrs[0].Holds[i].Seat.Col += 2 }
		turns["Offer"+at+"Kind"] = func(v *impl.View) { v.Offers[i].Kind++ }
		turns["Offer"+at+"Home"] = func(v *impl.View) { v.Offers[i].Home++ }
		turns["Offer"+at+"Loc"] = func(v *impl.View) { v.Offers[i].Loc++ }
		turns["Token"+at+"No"] = func(v *impl.View) { v.Tokens[i].No++ }
		turns["Token"+at+"House"] = func(v *impl.View) { v.Tokens[i].House++ }
		turns["Token"+at+"Role"] = func(v *impl.View) { v.Tokens[i].Role++ }
		turns["Token"+at+"Till"] = func(v *impl.View) { v.Tokens[i].Till++ }
		turns["Entry"+at+"Kind"] = func(v *impl.View) { v.Entries[i].Kind++ }
		turns["Entry"+at+"Home"] = func(v *impl.View) { v.Entries[i].Home++ }
		turns["Entry"+at+"Loc"] = func(v *impl.View) { v.Entries[i].Loc++ }
		turns["Map"+at+"a mark"] = func(v *impl.View) { v.Maps[i] = "o" + v.Maps[i][1:] }
		turns["Map"+at+"a mark more"] = func(v *impl.View) { v.Maps[i] += "." }
		turns["Map"+at+"empty"] = func(v *impl.View) { v.Maps[i] = "" }
	}
	return turns
}

func TestViewSameOfTwoThatDifferInOneField(t *testing.T) {
	wantSame(t, "two that are alike", baseView(), baseView(), true)
	for what, turn := range viewTurns() {
		v, again := baseView(), baseView()
		turn(&v)
		turn(&again)
		wantSame(t, what, v, baseView(), false)
		wantSame(t, what+" in both", v, again, true)
		wantSame(t, what+", and none", v, impl.View{}, false)
	}
}

// TestViewSameOfListsOfWhichOneBeginsTheOther cuts each list at each place.
func TestViewSameOfListsOfWhichOneBeginsTheOther(t *testing.T) {
	for what, cut := range map[string]func(v *impl.View, n int){
		"Flights": func(v *impl.View, n int) { v.Flights = v.Flights[:n] }, "Pnrs": func(v *impl.View, n int) { v.Pnrs = v.Pnrs[:n] },
		"Offers": func(v *impl.View, n int) { v.Offers = v.Offers[:n] }, "Tokens": func(v *impl.View, n int) { v.Tokens = v.Tokens[:n] },
		"Entries": func(v *impl.View, n int) { v.Entries = v.Entries[:n] }, "Maps": func(v *impl.View, n int) { v.Maps = v.Maps[:n] },
		"Names": func(v *impl.View, n int) { v.Pnrs[0].Names = v.Pnrs[0].Names[:n] }, "Holds": func(v *impl.View, n int) { v.Pnrs[0].Holds = v.Pnrs[0].Holds[:n] },
	} {
		for n := range 3 {
			for m := range 3 {
				a, b := baseView(), baseView()
				cut(&a, n)
				cut(&b, m)
				wantSame(t, fmt.Sprintf("%s cut at %d and %d", what, n, m), a, b, n == m)
			}
		}
	}
}

func TestViewSameOfNoneAndAnEmptyList(t *testing.T) {
	empty := impl.View{Flights: []impl.Flight{}, Pnrs: []impl.Pnr{}, Offers: []impl.Entry{}, Tokens: []impl.Token{}, Entries: []impl.Entry{}, Maps: []string{}}
	wantSame(t, "none and empty lists", impl.View{}, empty, true)
	wantSame(t, "none twice", impl.View{}, impl.View{}, true)
	a, b := impl.View{Pnrs: pnrsOf("1.1 of 1 live")}, impl.View{Pnrs: pnrsOf("1.1 of 1 live")}
	a.Pnrs[0].Names, a.Pnrs[0].Holds = nil, nil
	b.Pnrs[0].Names, b.Pnrs[0].Holds = []string{}, []impl.Hold{}
	wantSame(t, "a booking with none and with empty lists", a, b, true)
	room := baseView()
	room.Flights, room.Offers, room.Maps = slices.Grow(room.Flights, 9), slices.Grow(room.Offers, 9), slices.Grow(room.Maps, 9)
	wantSame(t, "lists with room behind their ends", room, baseView(), true)
	ofHost, ofRoom := impl.ViewOf(newHost(nil), 1), impl.View{House: 1, Next: 1, Flights: []impl.Flight{}, Maps: []string{}}
	wantSame(t, "of a host with nothing", ofHost, ofRoom, true)
}

// TestViewSameOfViewsThatNoHostHas: it asks for alike fields, and for no more.
func TestViewSameOfViewsThatNoHostHas(t *testing.T) {
	long := func(n int) impl.View {
		v := impl.View{House: math.MinInt64, Entries: make([]impl.Entry, mostList+1), Offers: entriesUpTo(2 * mostList), Tokens: tokensUpTo(mostList+1, 3), Next: math.MaxInt64, Now: -1}
		v.Pnrs, v.Flights = slices.Repeat(madeBy(9, 99), mostList+1), make([]impl.Flight, mostList+1)
		v.Maps = append(make([]string, mostList+1), rep("x", n))
		return v
	}
	wantSame(t, "longer than all limits", long(limit+1), long(limit+1), true)
	wantSame(t, "longer than all limits, and one differs at its end", long(limit+1), long(limit+2), false)
	for _, c := range wrongPnrs() {
		a, b := impl.View{Pnrs: []impl.Pnr{c.pnr}}, impl.View{Pnrs: []impl.Pnr{c.pnr}}
		wantSame(t, c.what, a, b, true)
		b.Pnrs[0].Loc--
		wantSame(t, c.what+", and Loc differs", a, b, false)
	}
}

// TestHouseOf asks with each token of deskHost, whatever its role may ask, and whether it would be done or not.
func TestHouseOf(t *testing.T) {
	h := deskHost()
	houses := map[int64]int64{1: 1, 2: 2, 3: 3, 4: 4, 5: 1, 6: 1, 7: 1, 12: 2, mostNo: 2} // 7, 12 and the last one are at their Till, 8 is past it
	for _, token := range []int64{1, 2, 3, 4, 5, 6, 7, 8, 9, 10, 11, 12, 13, 37, 998, mostNo} {
		for kind := int64(1); kind <= mostKind; kind++ {
			r := baseReq(kind)
			r.Token = token
			wantHouse(t, "deskHost", h, r, houses[token])
		}
	}
	for _, text := range []string{"make 1", "read 1 1.4", "read 5 4.4", "name 5 1.1 x", "map 1 zz", "take 1 1.1"} {
		wantHouse(t, text, h, reqsOf(text)[0], 1)
	}
	for _, h := range []impl.Host{newHost(nil), newHost(h.Flights), deskWith(func(h *impl.Host) { h.Tokens = h.Tokens[1:] })} {
		wantHouse(t, "of a host without that token", h, reqsOf("make 1")[0], 0)
	}
}

func TestHouseOfATokenAtItsTill(t *testing.T) {
	for _, till := range []int64{0, 1, 20, lastTime - 1, lastTime} {
		for now := max(till-1, 0); now <= min(till+1, lastTime); now++ {
			h := deskWith(func(h *impl.Host) { h.Tokens, h.Now = []impl.Token{{No: 7, House: 3, Role: 1, Till: till}}, now })
			want := int64(3)
			if now > till {
				want = 0
			}
			wantHouse(t, fmt.Sprintf("at %d of a token till %d", now, till), h, reqsOf("audit 7")[0], want)
		}
	}
}

func TestHouseOfRequestsThatAreNotRight(t *testing.T) {
	h := deskWith(func(h *impl.Host) { // with the tokens that these requests have
		h.Tokens = []impl.Token{{No: 1, House: 2, Role: 3, Till: 50}, {No: 37, House: 4, Role: 3, Till: 50}}
	})
	for kind := int64(1); kind <= mostKind; kind++ {
		wantHouse(t, "a right one", h, baseReq(kind), 4)
	}
	for _, c := range wrongReqs() {
		wantHouse(t, c.what, h, c.req, 0)
	}
}

func TestHouseOfHostsThatAreNotRight(t *testing.T) {
	for _, c := range wrongHosts() {
		for _, token := range append(slices.Clone(c.host.Tokens[:min(3, len(c.host.Tokens))]), impl.Token{No: 1}) {
			wantHouse(t, c.what, c.host, impl.Req{Kind: impl.RqMake, Token: token.No}, 0)
		}
		wantHouse(t, c.what, c.host, impl.Req{}, 0)
	}
}

// asksOf are right requests with a token: of each kind, and of each booking and each seat that deskHost may have, and some that it has not.
func asksOf(token int64) []impl.Req {
	no := strconv.Itoa(int(token))
	l := reqsOf("make "+no, "map "+no+" ab1", "map "+no+" b", "map "+no+" cd2", "map "+no+" zz", "audit "+no)
	for home := int64(1); home <= mostHouses; home++ {
		for loc := int64(1); loc <= 6; loc++ {
			place := strconv.Itoa(int(home)) + "." + strconv.Itoa(int(loc))
			for _, text := range []string{"read T P", "name T P guest", "cancel T P", "take T P", "offer T P 1", "offer T P 4", "hold T P ab1 1a", "hold T P ab1 1c", "hold T P ab1 2c",
				"hold T P ab1 3a", "hold T P zz 1a", "free T P ab1 1a", "free T P ab1 2c", "free T P b 1a"} {
				l = append(l, reqsOf(strings.NewReplacer("T", no, "P", place).Replace(text))...)
			}
		}
	}
	return l
}

// wantAlikeTo looks whether two hosts look alike to a house, whether all that it asks is told it alike, and whether they look alike behind that, too, if it takes nothing.
func wantAlikeTo(t *testing.T, what string, a, b impl.Host, house int64) {
	t.Helper()
	if !impl.HostRight(a) || !impl.HostRight(b) {
		t.Fatalf("%s: these are not right: %.700v, %.700v", what, a, b)
	}
	wantSame(t, what, impl.ViewOf(a, house), impl.ViewOf(b, house), true)
	for _, token := range seenBy(a, house).Tokens {
		for _, r := range asksOf(token.No) {
			onA, onB := impl.Do(a, r), impl.Do(b, r)
			if onA.Reply != onB.Reply {
				t.Errorf("%s: %s is told %+v and %+v", what, impl.ReqText(r), onA.Reply, onB.Reply)
			}
			changed := !sameHosts(onA.Host, a) || !sameHosts(onB.Host, b)
			if changed && r.Kind != impl.RqTake && !impl.ViewSame(impl.ViewOf(onA.Host, house), impl.ViewOf(onB.Host, house)) {
				t.Errorf("%s: behind %s they look alike no more", what, impl.ReqText(r))
			}
		}
	}
}

// TestWhatIsHiddenFromAHouse: deskHost, with one thing of the other houses turned, looks to house 1 as it did.
func TestWhatIsHiddenFromAHouse(t *testing.T) {
	for what, turn := range map[string]func(h *impl.Host){
		"another guest":                    pnrTurned("1.4 of 2 live +zed ab1:2c"),
		"no guest":                         pnrTurned("1.4 of 2 live ab1:2c"),
		"one more guest":                   pnrTurned("2.2 of 2 live to 1 +ann b:1a"),
		"a guest where nothing is held":    pnrTurned("2.3 of 2 gone +ann"),
		"one live that was gone":           pnrTurned("2.3 of 2 live"),
		"one of a third house":             pnrTurned("1.4 of 3 live +bob ab1:2c"),
		"one of who made none":             pnrTurned("2.3 of 4 gone"),
		"one offered to a third house":     pnrTurned("1.4 of 2 live to 3 +bob ab1:2c"),
		"one more of house 2":              pnrMade(8, "2.4 of 2 live +ann"),
		"one more, which is gone":          pnrMade(8, "2.4 of 2 gone"),
		"the first one of house 4":         pnrMade(9, "4.1 of 4 live to 3"),
		"one less":                         func(h *impl.Host) { h.Pnrs = slices.Delete(h.Pnrs, 7, 8) },
		"a seat held by another booking":   func(h *impl.Host) { pnrTurned("1.4 of 2 live +bob")(h); pnrTurned("2.2 of 2 live to 1 ab1:2c b:1a")(h) },
		"seats held by one that is new":    func(h *impl.Host) { pnrTurned("1.4 of 2 gone")(h); pnrMade(9, "4.1 of 4 live ab1:2c")(h) },
		"seats held the other way round":   func(h *impl.Host) { pnrTurned("2.2 of 2 live to 1 ab1:1b")(h); pnrTurned("3.1 of 3 live to 1 b:1a")(h) },
		"an offered one of a third house":  pnrTurned("2.2 of 4 live to 1 b:1a"),
		"no entries":                       func(h *impl.Host) { h.Audits[2].Entries = nil },
		"as many entries as there can be":  func(h *impl.Host) { h.Audits[1].Entries = entriesUpTo(mostList) },
		"another entry":                    func(h *impl.Host) { h.Audits[2].Entries[0].Loc = 2 },
		"tokens less":                      func(h *impl.Host) { h.Tokens = slices.Delete(h.Tokens, 1, 4) },
		"a token more":                     func(h *impl.Host) { h.Tokens = slices.Insert(h.Tokens, 8, impl.Token{No: 9, House: 3, Role: 1}) },
		"a token of a third house":         func(h *impl.Host) { h.Tokens[1].House = 4 },
		"a token of another role":          func(h *impl.Host) { h.Tokens[1].Role = 1 },
		"a token till another time":        func(h *impl.Host) { h.Tokens[1].Till = 20 },
		"a token of another number":        func(h *impl.Host) { h.Tokens[8].No = 13 },
		"an offer more, to another house":  pnrTurned("2.3 of 2 live to 4"),
		"all of these that go together":    func(h *impl.Host) { *h = disguised(rand.New(rand.NewSource(1)), *h, 1) },
		"many that can not be seen behind": func(h *impl.Host) { h.Pnrs = append(h.Pnrs, madeBy(4, 1, 2, 3, 4, 5, 6, 7, 8, 9)...) },
	} {
		h := deskWith(turn)
		if sameHosts(h, deskHost()) {
			t.Errorf("%s: nothing is turned", what)
		}
		wantAlikeTo(t, what, deskHost(), h, 1)
	}
}

// TestWhatAHouseSees: deskHost, with one thing turned that house 1 sees, looks to it as it did no more.
func TestWhatAHouseSees(t *testing.T) {
	for what, turn := range map[string]func(h *impl.Host){
		"a guest of its own":              pnrTurned("1.1 of 1 live to 2 +bob ab1:1a cd2:20f"),
		"a guest of one that is gone":     pnrTurned("1.3 of 1 gone"),
		"a guest of one that it took":     pnrTurned("2.1 of 1 live +ann"),
		"what it offers":                  pnrTurned("1.1 of 1 live to 3 +ann ab1:1a cd2:20f"),
		"one gone":                        pnrTurned("1.2 of 1 gone +a +b +c +d"),
		"one that is another house's":     pnrTurned("1.2 of 3 live +a +b +c +d"),
		"one of another house's its own":  pnrTurned("2.3 of 1 gone"),
		"one more":                        pnrMade(5, "1.6 of 1 live"),
		"one more, of another one":        pnrMade(5, "1.6 of 4 gone"), // of which Next tells
		"which seat it holds":             pnrTurned("1.1 of 1 live to 2 +ann ab1:1c cd2:20f"),
		"a seat that another one holds":   pnrTurned("1.4 of 2 live +bob ab1:2b"),
		"a seat more":                     pnrTurned("1.4 of 2 live +bob ab1:2b ab1:2c"),
		"a seat less":                     pnrTurned("1.4 of 2 live +bob"),
		"an offer less":                   pnrTurned("2.2 of 2 live b:1a"),
		"an offer to another house":       pnrTurned("2.2 of 2 live to 3 b:1a"),
		"an offer more":                   pnrTurned("1.4 of 2 live to 1 +bob ab1:2c"),
		"an entry less":                   func(h *impl.Host) { h.Audits[0].Entries = h.Audits[0].Entries[:1] },
		"an entry more":                   func(h *impl.Host) { h.Audits[0].Entries = entriesUpTo(3) },
		"another entry":                   func(h *impl.Host) { h.Audits[0].Entries[1].Kind = 3 },
		"a token less":                    func(h *impl.Host) { h.Tokens = h.Tokens[1:] },
		"a token that shows no more less": func(h *impl.Host) { h.Tokens = slices.Delete(h.Tokens, 7, 8) },
		"a token's role":                  func(h *impl.Host) { h.Tokens[4].Role = 2 },
		"a token's till":                  func(h *impl.Host) { h.Tokens[7].Till = 18 },
		"a token of another one its own":  func(h *impl.Host) { h.Tokens[1].House = 1 },
		"a flight more":                   func(h *impl.Host) { h.Flights = append(h.Flights, impl.Flight{Name: "d", Rows: 1, Cols: 1}) },
		"a flight of more rows":           func(h *impl.Host) { h.Flights[1].Rows = 2 },
		"a flight of other rows":          func(h *impl.Host) { h.Flights[0] = impl.Flight{Name: "ab1", Rows: 3, Cols: 3} },
		"another flight of the same map": func(h *impl.Host) {
			h.Flights = append(h.Flights[:2], impl.Flight{Name: "cd2", Rows: 20, Cols: 6})
			h.Flights[1].Name = "bb"
			h.Pnrs[6].Holds[0].Flight = "bb"
		},
		"Now": func(h *impl.Host) { h.Now = 21 },
	} {
		h := deskWith(turn)
		if !impl.HostRight(h) {
			t.Fatalf("%s: this is not right: %+v", what, h)
		}
		wantSame(t, what, impl.ViewOf(deskHost(), 1), impl.ViewOf(h, 1), false)
	}
}

// TestHostsThatLookAlikeTillItTakes: what a house takes it sees from then on, and only from then on.
func TestHostsThatLookAlikeTillItTakes(t *testing.T) {
	a, b := deskHost(), deskWith(pnrTurned("2.2 of 2 live to 1 +ann b:1a"))
	wantAlikeTo(t, "ahead of it", a, b, 1)
	take := reqsOf("take 1 2.2")[0]
	behindA, behindB := impl.Do(a, take), impl.Do(b, take)
	if behindA.Reply != (impl.Reply{Text: "ok"}) || behindB.Reply != behindA.Reply {
		t.Errorf("the take is told %+v and %+v", behindA.Reply, behindB.Reply)
	}
	wantSame(t, "behind the take", impl.ViewOf(behindA.Host, 1), impl.ViewOf(behindB.Host, 1), false)
	wantSame(t, "behind the take, to who lost it", impl.ViewOf(behindA.Host, 3), impl.ViewOf(behindB.Host, 3), true)
}

// disguised is a host that looks like h to a house, with all turned by chance that it can not see.
func disguised(r *rand.Rand, h impl.Host, house int64) impl.Host {
	c := hostCopy(h)
	others := slices.DeleteFunc([]int64{1, 2, 3, 4}, func(n int64) bool { return n == house })
	other := func() int64 { return others[r.Intn(len(others))] }
	for i := range c.Audits {
		if c.Audits[i].House != house {
			c.Audits[i].Entries = entriesUpTo([]int{0, r.Intn(9), mostList - 1, mostList}[r.Intn(4)])
		}
	}
	c.Tokens = slices.DeleteFunc(c.Tokens, func(token impl.Token) bool { return token.House != house })
	for _, no := range r.Perm(mostNo)[:r.Intn(mostTokens-len(c.Tokens)+1)] {
		if !slices.ContainsFunc(c.Tokens, func(token impl.Token) bool { return token.No == int64(no)+1 }) {
			c.Tokens = append(c.Tokens, impl.Token{No: int64(no) + 1, House: other(), Role: r.Int63n(mostRole) + 1, Till: r.Int63n(lastTime + 1)})
		}
	}
	slices.SortFunc(c.Tokens, func(a, b impl.Token) int { return int(a.No - b.No) })
	disguisePnrs(r, &c, house, other)
	return c
}

// disguisePnrs turns the bookings of other houses than that one: but the seats held by them, taken together, and what is offered to it.
func disguisePnrs(r *rand.Rand, h *impl.Host, house int64, other func() int64) {
	var held []impl.Hold
	var live []int
	for home := int64(1); home <= mostHouses; home++ {
		n := len(slices.DeleteFunc(slices.Clone(h.Pnrs), func(p impl.Pnr) bool { return p.Home != home }))
		for home != house && n < mostLoc && r.Intn(2) == 0 {
			n++
			h.Pnrs = append(h.Pnrs, impl.Pnr{Home: home, Loc: int64(n), Owner: other()})
		}
	}
	slices.SortStableFunc(h.Pnrs, func(a, b impl.Pnr) int { return int(a.Home - b.Home) })
	for i := range h.Pnrs {
		p := &h.Pnrs[i]
		if p.Owner == house {
			continue
		}
		held = append(held, p.Holds...)
		p.Owner, p.Names, p.Holds = other(), slices.Repeat([]string{"x" + strconv.Itoa(r.Intn(9))}, r.Intn(mostNames+1)), nil
		if p.Live = p.Offer == house || len(held) > mostHolds*len(live) || r.Intn(2) == 0; p.Live {
			live = append(live, i)
		}
		if p.Offer != house {
			p.Offer = []int64{0, other()}[r.Intn(2)]
		}
		if p.Offer == p.Owner || !p.Live {
			p.Offer = 0
		}
	}
	for _, x := range held {
		i := live[r.Intn(len(live))]
		for len(h.Pnrs[i].Holds) == mostHolds {
			i = live[r.Intn(len(live))]
		}
		h.Pnrs[i].Holds = append(h.Pnrs[i].Holds, x)
		slices.SortFunc(h.Pnrs[i].Holds, holdOrder)
	}
}

// leavesNoTrace tells of a right request whether a house sees nothing of it, if another one asks for it, and it is done.
func leavesNoTrace(h impl.Host, r impl.Req, house int64) bool {
	p := impl.FindPnr(h, r.Home, r.Loc)
	switch r.Kind {
	case impl.RqHold, impl.RqFree:
		return false
	case impl.RqCancel:
		return len(p.Holds) == 0 && p.Offer != house
	case impl.RqOffer:
		return r.To != house && p.Offer != house
	case impl.RqTake:
		return p.Owner != house
	}
	return true
}

// lookalike are two hosts that look alike to a house, and what was done so far.
type lookalike struct {
	house        int64
	a, b         impl.Host
	done, beyond map[int64]int
}

// asks lets the house ask both hosts for the same.
func (l *lookalike) asks(t *testing.T, r impl.Req) {
	t.Helper()
	onA, onB := impl.Do(l.a, r), impl.Do(l.b, r)
	if onA.Code != onB.Code || onA.Reply != onB.Reply {
		t.Fatalf("house %d, %s: got %+v and %+v of %+v and %+v", l.house, impl.ReqText(r), onA.Reply, onB.Reply, l.a, l.b)
	}
	if onA.Code != ok || onA.Reply.Code != ok {
		return
	}
	l.done[r.Kind]++
	if r.Kind != impl.RqTake {
		l.a, l.b = onA.Host, onB.Host
	}
}

// hides lets another house ask one of the hosts for what leaves no trace.
func (l *lookalike) hides(r *rand.Rand, h *impl.Host) {
	q := someReq(r, *h)
	if len(h.Tokens) > 0 {
		q.Token = h.Tokens[r.Intn(len(h.Tokens))].No
	}
	if impl.HouseOf(*h, q) == l.house || !leavesNoTrace(*h, q, l.house) {
		return
	}
	out := impl.Do(*h, q)
	if out.Code == ok && out.Reply.Code == ok {
		*h = out.Host
		l.beyond[q.Kind]++
	}
}

// wantAlike looks whether both hosts still look alike, but not to all houses.
func (l *lookalike) wantAlike(t *testing.T, what string) {
	t.Helper()
	wantView(t, what, l.a, l.house, seenBy(l.a, l.house))
	wantSame(t, what, impl.ViewOf(l.a, l.house), impl.ViewOf(l.b, l.house), true)
	if t.Failed() {
		t.FailNow()
	}
}

// TestToHostsThatLookAlikeTheSameIsTold is promise 10 by chance.
func TestToHostsThatLookAlikeTheSameIsTold(t *testing.T) {
	r := rand.New(rand.NewSource(100))
	done, beyond, differ := map[int64]int{}, map[int64]int{}, 0
	for range 300 {
		h := someHost(r)
		offeredSome(r, &h)
		h.Tokens, h.Now = deskTokens(), 20
		house := r.Int63n(mostHouses) + 1
		if r.Intn(5) == 0 {
			h.Audits[house-1].Entries = entriesUpTo(mostList - r.Intn(6))
		}
		l := lookalike{house: house, a: h, b: disguised(r, h, house), done: done, beyond: beyond}
		if !impl.HostRight(l.b) {
			t.Fatalf("this is not right: %+v", l.b)
		}
		l.wantAlike(t, "ahead of all")
		if !impl.ViewSame(impl.ViewOf(l.a, house%mostHouses+1), impl.ViewOf(l.b, house%mostHouses+1)) {
			differ++
		}
		own := seenBy(h, house).Tokens
		for range 30 {
			q := someReq(r, l.a)
			q.Token = own[r.Intn(len(own))].No
			l.asks(t, q)
			l.wantAlike(t, "behind "+impl.ReqText(q))
			for range 3 {
				l.hides(r, &l.a)
				l.hides(r, &l.b)
			}
			l.wantAlike(t, "behind what others asked")
		}
	}
	for kind := int64(1); kind <= mostKind; kind++ {
		if done[kind] < 20 || beyond[kind] < 20 && kind != impl.RqHold && kind != impl.RqFree {
			t.Errorf("%s was done %d times, and %d times out of sight: this tries too little", kindWords[kind], done[kind], beyond[kind])
		}
	}
	if differ < 250 {
		t.Errorf("just %d of 300 hosts look otherwise to another house: this tries too little", differ)
	}
}

// TestViewsAreNewMemory writes over all that a view has, and behind its ends, and looks at the host.
func TestViewsAreNewMemory(t *testing.T) {
	for house := int64(1); house <= mostHouses; house++ {
		h := roomyHost()
		was := fmt.Sprintf("%+v", withSpare(h))
		v := impl.ViewOf(h, house)
		told := ownTexts(impl.Host{Flights: v.Flights, Pnrs: v.Pnrs})
		for _, text := range ownTexts(h) {
			if slices.ContainsFunc(append(told, v.Maps...), func(told string) bool { return len(told) > 1 && sharesMemory(told, text) }) {
				t.Errorf("house %d: %q is told in memory of the argument", house, text)
			}
		}
		for i := range v.Pnrs {
			clear(v.Pnrs[i].Names[:cap(v.Pnrs[i].Names)])
			clear(v.Pnrs[i].Holds[:cap(v.Pnrs[i].Holds)])
		}
		clear(v.Flights[:cap(v.Flights)])
		clear(v.Pnrs[:cap(v.Pnrs)])
		clear(v.Offers[:cap(v.Offers)])
		clear(v.Tokens[:cap(v.Tokens)])
		clear(v.Entries[:cap(v.Entries)])
		clear(v.Maps[:cap(v.Maps)])
		if now := fmt.Sprintf("%+v", withSpare(h)); now != was {
			t.Errorf("house %d: the argument is %.2000s behind it, was %.2000s", house, now, was)
		}
		wantView(t, "told anew", h, house, deskViews()[house-1])
	}
}

// TestListsOfOneViewShareNoMemory adds to each list of a view, and looks at the others.
func TestListsOfOneViewShareNoMemory(t *testing.T) {
	for _, h := range append(edgeHosts(), baseHost()) {
		for house := int64(1); house <= mostHouses; house++ {
			v := impl.ViewOf(h, house)
			for i := range v.Pnrs {
				_, _ = append(v.Pnrs[i].Names, "more"), append(v.Pnrs[i].Holds, hold("more", 9, 9))
			}
			_, _ = append(v.Offers, impl.Entry{Kind: 9, Home: 9, Loc: 9}), append(v.Entries, impl.Entry{Kind: 8, Home: 8, Loc: 8})
			_, _, _, _ = append(v.Flights, impl.Flight{Rows: 9}), append(v.Tokens, impl.Token{No: 9}), append(v.Maps, "more"), append(v.Pnrs, impl.Pnr{})
			if want := seenBy(h, house); !sameViews(v, want) {
				t.Errorf("house %d: got %+v, want %+v", house, v, want)
			}
		}
	}
}

// TestViewsAreToldAnewEachTime asks for the same over and over, and for others between.
func TestViewsAreToldAnewEachTime(t *testing.T) {
	want := deskViews()
	for range 3 {
		for _, house := range []int64{3, 1, 0, 4, 2, 5, 1} {
			if house < 1 || house > mostHouses {
				wantView(t, "no house", deskHost(), house, impl.View{})
				continue
			}
			wantView(t, "again", deskHost(), house, want[house-1])
			impl.ViewOf(baseHost(), house)
			wantHouse(t, "again", deskHost(), reqsOf("make 999")[0], 2)
		}
	}
}
