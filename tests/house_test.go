package tests

import (
	"cmp"
	"math"
	"math/rand"
	"reflect"
	"slices"
	"strconv"
	"strings"
	"testing"

	"loop.example/g00755/impl"
)

const (
	mostFlights = 4
	firstKind   = 1
	lastKind    = 7
)

// baseHost is a right host that has something of each thing: bookings of three houses, two of them gone, some owned by another house.
func baseHost() impl.Host {
	return impl.Host{
		Flights: []impl.Flight{{Name: "ab1", Rows: 2, Cols: 3}, {Name: "b", Rows: 1, Cols: 1}, {Name: "cd2", Rows: 20, Cols: 6}},
		Pnrs: []impl.Pnr{
			{Home: 1, Loc: 1, Owner: 1, Names: []string{"ann"}, Holds: []impl.Hold{hold("ab1", 1, 0), hold("cd2", 20, 5)}, Live: true},
			{Home: 1, Loc: 2, Owner: 2, Names: []string{"bob", "cy"}, Holds: []impl.Hold{hold("ab1", 2, 2)}, Live: true, Offer: 3},
			{Home: 1, Loc: 3, Owner: 1, Names: []string{"eve"}},
			{Home: 2, Loc: 1, Owner: 1, Live: true},
			{Home: 4, Loc: 1, Owner: 4, Holds: []impl.Hold{hold("b", 1, 0), hold("cd2", 1, 0)}, Live: true},
			{Home: 4, Loc: 2, Owner: 2},
		},
		Tokens: tokensOf(1, 3, 500),
		Audits: []impl.Audit{
			{House: 1, Entries: []impl.Entry{{Kind: 1, Home: 1, Loc: 1}, {Kind: 3, Home: 1, Loc: 1}, {Kind: 1, Home: 1, Loc: 1}}},
			{House: 2},
			{House: 3, Entries: []impl.Entry{{Kind: lastKind, Home: mostHouses, Loc: mostLoc}}},
			{House: 4, Entries: []impl.Entry{{Kind: firstKind, Home: 4, Loc: 2}, {Kind: 5, Home: 2, Loc: 1}}},
		},
		Now: 77,
	}
}

// hostWith gives baseHost with one thing changed.
func hostWith(change func(h *impl.Host)) impl.Host {
	h := baseHost()
	change(&h)
	return h
}

// newHost is what HostNew tells of right flights, told in another way.
func newHost(l []impl.Flight) impl.Host {
	return impl.Host{Flights: l, Audits: []impl.Audit{{House: 1}, {House: 2}, {House: 3}, {House: 4}}}
}

// hostCopy gives a host that shares no list with h.
func hostCopy(h impl.Host) impl.Host {
	c := impl.Host{Flights: slices.Clone(h.Flights), Pnrs: slices.Clone(h.Pnrs), Tokens: slices.Clone(h.Tokens), Audits: slices.Clone(h.Audits), Now: h.Now}
	for i, p := range c.Pnrs {
		c.Pnrs[i].Names, c.Pnrs[i].Holds = slices.Clone(p.Names), slices.Clone(p.Holds)
	}
	for i, a := range c.Audits {
		c.Audits[i].Entries = slices.Clone(a.Entries)
	}
	return c
}

// sameHosts tells whether two hosts are alike, none and an empty list too.
func sameHosts(a, b impl.Host) bool {
	return slices.Equal(a.Flights, b.Flights) && slices.EqualFunc(a.Pnrs, b.Pnrs, alike) && slices.Equal(a.Tokens, b.Tokens) &&
		a.Now == b.Now && slices.EqualFunc(a.Audits, b.Audits, func(x, y impl.Audit) bool {
		return x.House == y.House && slices.Equal(x.Entries, y.Entries)
	})
}

// flightsUpTo are n flights that rise: f0, f1 and so on.
func flightsUpTo(n int) []impl.Flight {
	var l []impl.Flight
	for i := range n {
		l = append(l, impl.Flight{Name: "f" + strconv.Itoa(1000+i), Rows: int64(i%mostRows) + 1, Cols: int64(i%mostCols) + 1})
	}
	return l
}

// flightLists are lists of flights that a host may have, from none to the most.
func flightLists() [][]impl.Flight {
	one := impl.Flight{Name: "ab", Rows: 1, Cols: 1}
	most := impl.Flight{Name: rep("z", 8), Rows: mostRows, Cols: mostCols}
	l := [][]impl.Flight{nil, {}, {one}, {most}, {one, most}, {one, {Name: "ab0", Rows: 1, Cols: 1}}, {{Name: "9", Rows: 2, Cols: 2}, {Name: "a", Rows: 2, Cols: 2}},
		{{Name: "a10", Rows: 1, Cols: 2}, {Name: "a9", Rows: 2, Cols: 1}}, {{Name: "b", Rows: 9, Cols: 4}, {Name: "ba", Rows: 8, Cols: 3}, {Name: "c", Rows: 7, Cols: 2}}}
	for n := 1; n <= mostFlights; n++ {
		l = append(l, flightsUpTo(n))
	}
	return l
}

type wrongFlightList struct {
	what    string
	flights []impl.Flight
}

// wrongFlightLists are lists of at most MaxList flights that no host may have.
func wrongFlightLists() []wrongFlightList {
	a, b, c := impl.Flight{Name: "a", Rows: 2, Cols: 3}, impl.Flight{Name: "b", Rows: 2, Cols: 3}, impl.Flight{Name: "c", Rows: 2, Cols: 3}
	l := []wrongFlightList{
		{"one too many", flightsUpTo(mostFlights + 1)},
		{"far too many", flightsUpTo(mostList)},
		{"two that fall", []impl.Flight{b, a}},
		{"two that are alike", []impl.Flight{a, a}},
		{"two of one name that differ", []impl.Flight{a, {Name: "a", Rows: 3, Cols: 4}}},
		{"a name behind one that it begins", []impl.Flight{{Name: "ab1", Rows: 1, Cols: 1}, {Name: "ab", Rows: 1, Cols: 1}}},
		{"names as numbers", []impl.Flight{{Name: "a9", Rows: 1, Cols: 1}, {Name: "a10", Rows: 1, Cols: 1}}},
		{"the first two fall", []impl.Flight{b, a, c}},
		{"the last two fall", []impl.Flight{a, c, b}},
		{"the first two are of one name", []impl.Flight{a, a, b}},
		{"the last two are of one name", []impl.Flight{a, b, b}},
		{"the last one as the first one", []impl.Flight{a, b, a}},
		{"the most, the last two of one name", append(flightsUpTo(mostFlights-1), flightsUpTo(mostFlights - 1)[mostFlights-2])},
	}
	for _, f := range wrongFlights() {
		l = append(l, wrongFlightList{"a lone flight that is not right, " + shown(f.Name), []impl.Flight{f}},
			wrongFlightList{"a last flight that is not right, " + shown(f.Name), []impl.Flight{{Name: "0", Rows: 1, Cols: 1}, f}},
			wrongFlightList{"a first flight that is not right, " + shown(f.Name), []impl.Flight{f, {Name: "zz", Rows: 1, Cols: 1}}})
	}
	return l
}

// madeBy are live bookings of a house that have these Locs, and hold nothing.
func madeBy(home int64, locs ...int64) []impl.Pnr {
	var l []impl.Pnr
	for _, loc := range locs {
		l = append(l, impl.Pnr{Home: home, Loc: loc, Owner: home, Live: true})
	}
	return l
}

// holding are live bookings of house 1, of which each holds what is handed in at its place.
func holding(holds ...[]impl.Hold) []impl.Pnr {
	var l []impl.Pnr
	for i, held := range holds {
		l = append(l, impl.Pnr{Home: 1, Loc: int64(i) + 1, Owner: 1, Live: true, Holds: held})
	}
	return l
}

// entriesUpTo are n entries, each of what is written down in turn.
func entriesUpTo(n int) []impl.Entry {
	var l []impl.Entry
	for i := range n {
		l = append(l, impl.Entry{Kind: int64(i%lastKind) + 1, Home: int64(i%mostHouses) + 1, Loc: int64(i%mostLoc) + 1})
	}
	return l
}

// allPnrs are as many bookings as there can be.
func allPnrs() []impl.Pnr {
	var l []impl.Pnr
	for home := int64(1); home <= mostHouses; home++ {
		l = append(l, madeBy(home, 1, 2, 3, 4, 5, 6, 7, 8, 9)...)
	}
	return l
}

// rightHosts are hosts that are right, from one with nothing to one with the most of all.
func rightHosts() []impl.Host {
	l := []impl.Host{baseHost(), newHost(nil)}
	for _, flights := range flightLists() {
		l = append(l, newHost(flights))
	}
	pnrs := [][]impl.Pnr{nil, {}, madeBy(1, 1), madeBy(4, 1), madeBy(3, 1, 2), slices.Concat(madeBy(1, 1, 2), madeBy(2, 1), madeBy(3, 1, 2, 3)),
		slices.Concat(madeBy(2, 1), madeBy(4, 1)), allPnrs(), holding([]impl.Hold{hold("cd2", 1, 0)}, []impl.Hold{hold("ab1", 1, 0)}),
		holding([]impl.Hold{hold("ab1", 1, 0), hold("ab1", 1, 1)}, nil, []impl.Hold{hold("ab1", 1, 2), hold("cd2", 1, 0), hold("cd2", 1, 1), hold("cd2", 20, 5)})}
	for _, some := range pnrs {
		l = append(l, hostWith(func(h *impl.Host) { h.Pnrs = some }))
	}
	for _, tokens := range rightTokens() {
		l = append(l, hostWith(func(h *impl.Host) { h.Tokens = tokens }))
	}
	for _, n := range []int{0, 1, mostList - 1, mostList} {
		for place := range mostHouses {
			l = append(l, hostWith(func(h *impl.Host) { h.Audits[place].Entries = entriesUpTo(n) }))
		}
	}
	for _, now := range []int64{0, 1, lastTime - 1, lastTime} {
		l = append(l, hostWith(func(h *impl.Host) { h.Now = now }))
	}
	return l
}

type wrongHost struct {
	what string
	host impl.Host
}

// wrongHosts have each a fault.
func wrongHosts() []wrongHost {
	l := []wrongHost{{"the zero one", impl.Host{}}}
	for _, c := range wrongFlightLists() {
		l = append(l, wrongHost{c.what, newHost(c.flights)})
	}
	l = append(l, wrongHost{"more flights than a list has items", newHost(flightsUpTo(mostList + 1))},
		wrongHost{"one flight too many beside all else", hostWith(func(h *impl.Host) {
			h.Flights = append(h.Flights, impl.Flight{Name: "d", Rows: 1, Cols: 1}, impl.Flight{Name: "e", Rows: 1, Cols: 1})
		})})
	for _, c := range wrongTokens() {
		l = append(l, wrongHost{"tokens, " + c.what, hostWith(func(h *impl.Host) { h.Tokens = c.tokens })})
	}
	for _, tokens := range tooManyTokens() {
		l = append(l, wrongHost{"more tokens than a list has items", hostWith(func(h *impl.Host) { h.Tokens = tokens })})
	}
	for _, now := range []int64{math.MinInt64, -1, lastTime + 1, 1 << 32, math.MaxInt64} {
		l = append(l, wrongHost{"Now " + strconv.FormatInt(now, 10), hostWith(func(h *impl.Host) { h.Now = now })})
	}
	return slices.Concat(l, wrongOrders(), wrongSeatsHeld(), wrongAudits())
}

// wrongOrders are hosts whose bookings are not right, or do not rise, begun with 1 and without a gap.
func wrongOrders() []wrongHost {
	var l []wrongHost
	for _, c := range []struct {
		what string
		pnrs []impl.Pnr
	}{
		{"not rising by Home", slices.Concat(madeBy(2, 1), madeBy(1, 1))},
		{"a Home come back to", slices.Concat(madeBy(1, 1), madeBy(2, 1), madeBy(1, 2))},
		{"a Home begun anew", slices.Concat(madeBy(1, 1), madeBy(2, 1), madeBy(1, 1))},
		{"not rising by Home at the end", slices.Concat(madeBy(1, 1), madeBy(4, 1), madeBy(3, 1))},
		{"not rising by Loc", madeBy(1, 2, 1)},
		{"not rising by Loc at the end", madeBy(1, 1, 3, 2)},
		{"twice the same", madeBy(1, 1, 1)},
		{"twice the same at the end", madeBy(1, 1, 2, 2)},
		{"not begun with 1", madeBy(1, 2)},
		{"not begun with 1, and going on", madeBy(3, 2, 3)},
		{"the last Home not begun with 1", slices.Concat(madeBy(1, 1), madeBy(2, 2))},
		{"a Home that goes on where the one ahead ended", slices.Concat(madeBy(1, 1, 2), madeBy(2, 3))},
		{"a gap", madeBy(1, 1, 3)},
		{"a gap at the end", madeBy(4, 1, 2, 3, 5)},
		{"a gap of more than one", madeBy(1, 1, 9)},
		{"a gap in the second Home", slices.Concat(madeBy(1, 1, 2, 3), madeBy(2, 1, 3))},
		{"one Loc too many", madeBy(1, 1, 2, 3, 4, 5, 6, 7, 8, 9, 10)},
		{"one of no house behind all", append(allPnrs(), madeBy(5, 1)...)},
		{"very many", slices.Repeat(madeBy(1, 1), mostList+1)},
	} {
		l = append(l, wrongHost{"bookings, " + c.what, hostWith(func(h *impl.Host) { h.Pnrs = c.pnrs })})
	}
	for _, c := range wrongPnrs() {
		wrong := c.pnr
		l = append(l, wrongHost{"a booking, " + c.what, hostWith(func(h *impl.Host) { h.Pnrs = []impl.Pnr{wrong} })})
		if wrong.Loc == 2 {
			wrong.Holds = slices.DeleteFunc(slices.Clone(wrong.Holds), func(x impl.Hold) bool { return x == hold("ab1", 1, 0) || x == hold("cd2", 20, 5) })
		}
		if wrong.Loc == 2 && !impl.PnrRight(wrong) {
			l = append(l, wrongHost{"a second booking, " + c.what, hostWith(func(h *impl.Host) { h.Pnrs[1] = wrong })})
		}
	}
	return l
}

// wrongSeatsHeld are hosts with a hold of no seat that there is, or with a seat held twice.
func wrongSeatsHeld() []wrongHost {
	a, b, c := hold("ab1", 1, 0), hold("ab1", 1, 1), hold("cd2", 1, 0)
	var l []wrongHost
	for _, d := range []struct {
		what string
		pnrs []impl.Pnr
	}{
		{"twice in one booking", holding([]impl.Hold{a, a})},
		{"twice in one booking, behind another", holding([]impl.Hold{a, b, b})},
		{"twice in one booking, not side by side", holding([]impl.Hold{a, b, a})},
		{"twice in two bookings", holding([]impl.Hold{a}, []impl.Hold{a})},
		{"twice in two bookings that are not side by side", holding([]impl.Hold{a}, []impl.Hold{b}, []impl.Hold{a})},
		{"twice in two bookings beside other seats", holding([]impl.Hold{a, b}, []impl.Hold{b, c})},
		{"twice, last of all", holding([]impl.Hold{a, b}, nil, []impl.Hold{c}, nil, []impl.Hold{c})},
		{"twice by two houses", append(holding([]impl.Hold{c}), impl.Pnr{Home: 3, Loc: 1, Owner: 3, Live: true, Holds: []impl.Hold{c}})},
		{"three times", holding([]impl.Hold{a}, []impl.Hold{a}, []impl.Hold{a})},
		{"two of them twice", holding([]impl.Hold{a, c}, []impl.Hold{a, c})},
	} {
		l = append(l, wrongHost{"held " + d.what, hostWith(func(h *impl.Host) { h.Pnrs = d.pnrs })})
	}
	for _, x := range []impl.Hold{hold("zz", 1, 0), hold("ab", 1, 0), hold("ab11", 1, 0), hold("a", 1, 0), hold("ab1", 3, 0), hold("ab1", 1, 3),
		hold("ab1", 3, 3), hold("ab1", 20, 5), hold("b", 1, 1), hold("b", 2, 0)} {
		what := "a hold of no seat that there is, " + x.Flight + " " + writtenSeat(x.Seat)
		l = append(l, wrongHost{what, hostWith(func(h *impl.Host) { h.Pnrs = holding([]impl.Hold{x}) })},
			wrongHost{what + ", last of all", hostWith(func(h *impl.Host) { h.Pnrs = holding([]impl.Hold{a}, nil, impl.HoldPut([]impl.Hold{b, c}, x)) })})
	}
	return append(l, wrongHost{"a hold where there are no flights", hostWith(func(h *impl.Host) { h.Flights = nil })},
		wrongHost{"a hold of a flight that there is no more", hostWith(func(h *impl.Host) { h.Flights = h.Flights[:2] })})
}

// wrongAudits are hosts with too few or too many audits, or with one that is none.
func wrongAudits() []wrongHost {
	l := []wrongHost{
		{"no audits", hostWith(func(h *impl.Host) { h.Audits = nil })},
		{"one audit too few", hostWith(func(h *impl.Host) { h.Audits = h.Audits[:mostHouses-1] })},
		{"the first audit left out", hostWith(func(h *impl.Host) { h.Audits = h.Audits[1:] })},
		{"one audit too many", hostWith(func(h *impl.Host) { h.Audits = append(h.Audits, impl.Audit{House: mostHouses + 1}) })},
		{"the last audit twice", hostWith(func(h *impl.Host) { h.Audits = append(h.Audits, h.Audits[mostHouses-1]) })},
		{"very many audits", hostWith(func(h *impl.Host) { h.Audits = make([]impl.Audit, mostList+1) })},
		{"two audits turned round", hostWith(func(h *impl.Host) { h.Audits[1], h.Audits[2] = h.Audits[2], h.Audits[1] })},
		{"audits that fall", hostWith(func(h *impl.Host) { slices.Reverse(h.Audits) })},
	}
	for place := range mostHouses {
		at := " at " + strconv.Itoa(place)
		for _, house := range []int64{math.MinInt64, -1, 0, 1, 2, 3, 4, mostHouses + 1, 1<<32 + int64(place) + 1, math.MaxInt64} {
			if house != int64(place)+1 {
				l = append(l, wrongHost{"House " + strconv.FormatInt(house, 10) + at, hostWith(func(h *impl.Host) { h.Audits[place].House = house })})
			}
		}
		for _, n := range []int{mostList + 1, 2 * mostList} {
			l = append(l, wrongHost{"too many entries" + at, hostWith(func(h *impl.Host) { h.Audits[place].Entries = entriesUpTo(n) })})
		}
		for _, e := range wrongEntries() {
			for _, entryAt := range []int{0, 1, 2} {
				entries := entriesUpTo(3)
				entries[entryAt] = e
				l = append(l, wrongHost{"an entry that is none" + at, hostWith(func(h *impl.Host) { h.Audits[place].Entries = entries })})
			}
		}
	}
	most := entriesUpTo(mostList)
	most[mostList-1].Loc = 0
	return append(l, wrongHost{"the last one of the most entries", hostWith(func(h *impl.Host) { h.Audits[3].Entries = most })})
}

// wrongEntries have each one field that is out of what it may be.
func wrongEntries() []impl.Entry {
	l := []impl.Entry{{}}
	for _, n := range []int64{math.MinInt64, -1, 0, 1<<32 + 1, math.MaxInt64} {
		l = append(l, impl.Entry{Kind: n, Home: 1, Loc: 1}, impl.Entry{Kind: 1, Home: n, Loc: 1}, impl.Entry{Kind: 1, Home: 1, Loc: n})
	}
	for kind := int64(lastKind + 1); kind <= mostKind+1; kind++ {
		l = append(l, impl.Entry{Kind: kind, Home: 1, Loc: 1})
	}
	return append(l, impl.Entry{Kind: 1, Home: mostHouses + 1, Loc: 1}, impl.Entry{Kind: 1, Home: 1, Loc: mostLoc + 1})
}

// wantHostNew also looks whether what is handed in stays as it was.
func wantHostNew(t *testing.T, l []impl.Flight, want impl.HostOut) {
	t.Helper()
	was := slices.Clone(l)
	got := impl.HostNew(l)
	if got.Code != want.Code || !sameHosts(got.Host, want.Host) {
		t.Errorf("HostNew of %d flights: got %.300v, want %.300v", len(l), got, want)
	}
	if !slices.Equal(l, was) {
		t.Errorf("HostNew of %v: its argument is %v behind it", was, l)
	}
}

func wantFound(t *testing.T, h impl.Host, home, loc int64, want impl.Pnr) {
	t.Helper()
	if got := impl.FindPnr(h, home, loc); !alike(got, want) {
		t.Errorf("FindPnr %d.%d: got %+v, want %+v", home, loc, got, want)
	}
}

func wantHolder(t *testing.T, h impl.Host, x impl.Hold, want impl.Pnr) {
	t.Helper()
	if got := impl.WhoHolds(h, x); !alike(got, want) {
		t.Errorf("WhoHolds %s %+v: got %+v, want %+v", shown(x.Flight), x.Seat, got, want)
	}
}

func wantMap(t *testing.T, h impl.Host, flight, want string) {
	t.Helper()
	if got := impl.MapOf(h, flight); got != want {
		t.Errorf("MapOf %s: got %q, want %q", shown(flight), got, want)
	}
}

func wantOwns(t *testing.T, h impl.Host, house, want int64) {
	t.Helper()
	if got := impl.OwnsOf(h, house); got != want {
		t.Errorf("OwnsOf %d: got %d, want %d", house, got, want)
	}
}

func wantAudit(t *testing.T, h impl.Host, house int64, want []impl.Entry) {
	t.Helper()
	if got := impl.AuditOf(h, house); !slices.Equal(got, want) {
		t.Errorf("AuditOf %d: got %v, want %v", house, got, want)
	}
}

func wantNext(t *testing.T, h impl.Host, home, want int64) {
	t.Helper()
	if got := impl.NextLoc(h, home); got != want {
		t.Errorf("NextLoc %d: got %d, want %d", home, got, want)
	}
}

func TestHouseLimits(t *testing.T) {
	if impl.MaxFlights != mostFlights || impl.Quota != 5 {
		t.Errorf("MaxFlights %d, Quota %d, want %d, 5", impl.MaxFlights, impl.Quota, mostFlights)
	}
}

func TestHostRight(t *testing.T) {
	for i, h := range rightHosts() {
		was := hostCopy(h)
		if !impl.HostRight(h) {
			t.Errorf("host %d is right: %.300v", i, h)
		}
		if !sameHosts(h, was) {
			t.Errorf("host %d is %.300v behind it", i, h)
		}
	}
}

func TestHostRightOfHostsThatAreNot(t *testing.T) {
	for _, c := range wrongHosts() {
		was := hostCopy(c.host)
		if impl.HostRight(c.host) {
			t.Errorf("%s: this is not right", c.what)
		}
		if !sameHosts(c.host, was) {
			t.Errorf("%s: the argument is %.300v behind it", c.what, c.host)
		}
	}
}

// TestHostRightOfEachEntry holds each field of an entry, one below and one above what it may be, against its edges.
func TestHostRightOfEachEntry(t *testing.T) {
	for kind := int64(0); kind <= mostKind+1; kind++ {
		for home := int64(0); home <= mostHouses+1; home++ {
			for loc := int64(0); loc <= mostLoc+1; loc++ {
				want := kind >= firstKind && kind <= lastKind && home >= 1 && home <= mostHouses && loc >= 1 && loc <= mostLoc
				h := newHost(nil)
				h.Audits[2].Entries = []impl.Entry{{Kind: kind, Home: home, Loc: loc}}
				if got := impl.HostRight(h); got != want {
					t.Errorf("entry %d %d.%d: got %v", kind, home, loc, got)
				}
			}
		}
	}
}

// TestHostRightOfEachSeatHeld has one seat held alone, of rows and columns that the flight has and has not.
func TestHostRightOfEachSeatHeld(t *testing.T) {
	for _, f := range []impl.Flight{{Name: "ab1", Rows: 1, Cols: 1}, {Name: "ab1", Rows: 2, Cols: 3}, {Name: "ab1", Rows: mostRows, Cols: mostCols}} {
		for _, s := range rightSeats() {
			h := newHost([]impl.Flight{f, {Name: "b", Rows: mostRows, Cols: mostCols}})
			h.Pnrs = holding([]impl.Hold{{Flight: "ab1", Seat: s}})
			if got, want := impl.HostRight(h), s.Row <= f.Rows && s.Col < f.Cols; got != want {
				t.Errorf("%+v in %+v: got %v", s, f, got)
			}
		}
	}
}

// TestHostRightOfAnyThreeBookings holds each order of three bookings of few Homes and Locs against what rises without a gap.
func TestHostRightOfAnyThreeBookings(t *testing.T) {
	var all []impl.Pnr
	for home := int64(1); home <= 3; home++ {
		all = append(all, madeBy(home, 1, 2, 3)...)
	}
	for _, a := range all {
		for _, b := range all {
			for _, c := range all {
				h := newHost(nil)
				h.Pnrs = []impl.Pnr{a, b, c}
				if got, want := impl.HostRight(h), isHost(h); got != want {
					t.Errorf("%d.%d, %d.%d, %d.%d: got %v", a.Home, a.Loc, b.Home, b.Loc, c.Home, c.Loc, got)
				}
			}
		}
	}
}

func TestHostNew(t *testing.T) {
	for _, l := range flightLists() {
		wantHostNew(t, l, impl.HostOut{Host: newHost(l)})
		if !impl.HostRight(impl.HostNew(l).Host) {
			t.Errorf("the host of %v is not right", l)
		}
	}
}

func TestHostNewRefuses(t *testing.T) {
	for _, c := range wrongFlightLists() {
		t.Run(c.what, func(t *testing.T) {
			wantHostNew(t, c.flights, impl.HostOut{Code: badForm})
		})
	}
	for _, l := range [][]impl.Flight{flightsUpTo(mostList + 1), make([]impl.Flight, mostList+1), flightsUpTo(2 * mostList)} {
		wantHostNew(t, l, impl.HostOut{Code: badSize})
	}
	wantHostNew(t, make([]impl.Flight, mostList), impl.HostOut{Code: badForm})
}

// TestAHostThatIsNotRightTellsNothing asks of each for what there is in it.
func TestAHostThatIsNotRightTellsNothing(t *testing.T) {
	for _, c := range wrongHosts() {
		t.Run(c.what, func(t *testing.T) {
			was := hostCopy(c.host)
			for _, p := range append(slices.Clone(c.host.Pnrs[:min(3, len(c.host.Pnrs))]), impl.Pnr{Home: 1, Loc: 1}) {
				wantFound(t, c.host, p.Home, p.Loc, impl.Pnr{})
				for _, x := range append(slices.Clone(p.Holds[:min(3, len(p.Holds))]), hold("ab1", 1, 0)) {
					wantHolder(t, c.host, x, impl.Pnr{})
				}
			}
			for _, f := range c.host.Flights[:min(3, len(c.host.Flights))] {
				wantMap(t, c.host, f.Name, "")
			}
			wantMap(t, c.host, "ab1", "")
			for house := int64(-1); house <= mostHouses+1; house++ {
				wantOwns(t, c.host, house, 0)
				wantAudit(t, c.host, house, nil)
				wantNext(t, c.host, house, 0)
			}
			if !sameHosts(c.host, was) {
				t.Errorf("the argument is %.300v behind it", c.host)
			}
		})
	}
}

func TestFindPnrOfEachThatThereIs(t *testing.T) {
	for _, h := range rightHosts() {
		for home := int64(-1); home <= mostHouses+1; home++ {
			for loc := int64(-1); loc <= mostLoc+1; loc++ {
				want := impl.Pnr{}
				for _, p := range h.Pnrs {
					if [2]int64{p.Home, p.Loc} == [2]int64{home, loc} {
						want = p
					}
				}
				wantFound(t, h, home, loc, want)
			}
		}
	}
}

func TestFindPnr(t *testing.T) {
	h := baseHost()
	wantFound(t, h, 1, 1, h.Pnrs[0])
	wantFound(t, h, 1, 2, h.Pnrs[1]) // which another house owns
	wantFound(t, h, 1, 3, h.Pnrs[2]) // which is not Live
	wantFound(t, h, 2, 1, h.Pnrs[3])
	wantFound(t, h, 4, 2, h.Pnrs[5])
	for _, no := range [][2]int64{{1, 4}, {2, 2}, {3, 1}, {4, 3}, {0, 0}, {0, 1}, {1, 0}, {5, 1}, {1, 10}, {-1, -1}, {1<<32 + 1, 1}, {1, 1<<32 + 1},
		{math.MinInt64, 1}, {1, math.MinInt64}, {math.MaxInt64, math.MaxInt64}} {
		wantFound(t, h, no[0], no[1], impl.Pnr{})
	}
}

func TestWhoHolds(t *testing.T) {
	h := baseHost()
	wantHolder(t, h, hold("ab1", 1, 0), h.Pnrs[0])
	wantHolder(t, h, hold("cd2", 20, 5), h.Pnrs[0])
	wantHolder(t, h, hold("ab1", 2, 2), h.Pnrs[1])
	wantHolder(t, h, hold("b", 1, 0), h.Pnrs[4])
	wantHolder(t, h, hold("cd2", 1, 0), h.Pnrs[4])
	for _, x := range []impl.Hold{hold("ab1", 1, 1), hold("ab1", 2, 0), hold("cd2", 2, 2), hold("cd2", 2, 0), hold("cd2", 1, 1), // that no one has
		hold("zz", 1, 0), hold("ab", 1, 0), hold("ab11", 1, 0), hold("AB1", 1, 0), // of a flight that there is not
		hold("b", 20, 5), hold("ab1", 3, 0), hold("ab1", 1, 3), // of a seat that the flight has not
		{}, {Flight: "ab1"}, {Seat: impl.Seat{Row: 1}}, hold("", 1, 0), hold(rep("a", limit+1), 1, 0), hold("ab1", math.MinInt64, math.MaxInt64)} {
		wantHolder(t, h, x, impl.Pnr{})
	}
	for _, s := range wrongSeats() {
		wantHolder(t, h, impl.Hold{Flight: "ab1", Seat: s}, impl.Pnr{})
	}
	wantHolder(t, newHost(nil), hold("ab1", 1, 0), impl.Pnr{})
	wantHolder(t, newHost(h.Flights), hold("ab1", 1, 0), impl.Pnr{})
}

func TestMapOf(t *testing.T) {
	h := baseHost()
	wantMap(t, h, "ab1", "x....x") // the first seat, and the last one
	wantMap(t, h, "b", "x")
	wantMap(t, h, "cd2", "x"+rep(".", 118)+"x")
	for _, flight := range []string{"", "a", "ab", "ab11", "AB1", "ab1 ", "zz", "cd1", ".", rep("a", limit), rep("a", limit+1)} {
		wantMap(t, h, flight, "")
	}
	none := newHost(h.Flights)
	wantMap(t, none, "ab1", "......")
	wantMap(t, none, "b", ".")
	wantMap(t, none, "cd2", rep(".", 120))
	wantMap(t, newHost(nil), "ab1", "")
	wantMap(t, newHost(nil), "", "")
}

func TestMapOfOneSeatHeld(t *testing.T) {
	for _, f := range someFlights() {
		h := newHost([]impl.Flight{f, {Name: "other", Rows: mostRows, Cols: mostCols}})
		size := int(f.Rows * f.Cols)
		wantMap(t, h, f.Name, rep(".", size))
		for _, n := range []int{0, 1, size / 2, size - 1} {
			if n >= size {
				continue
			}
			seat := impl.Seat{Row: int64(n)/f.Cols + 1, Col: int64(n) % f.Cols}
			h.Pnrs = holding(nil, []impl.Hold{{Flight: f.Name, Seat: seat}})
			wantMap(t, h, f.Name, rep(".", n)+"x"+rep(".", size-1-n))
			wantMap(t, h, "other", rep(".", 120))
			h.Pnrs[1].Holds[0].Flight = "other"
			wantMap(t, h, f.Name, rep(".", size))
		}
	}
}

func TestMapOfAllSeatsHeld(t *testing.T) {
	h := newHost([]impl.Flight{{Name: "ab1", Rows: 2, Cols: 3}})
	h.Pnrs = holding([]impl.Hold{hold("ab1", 1, 2), hold("ab1", 2, 0), hold("ab1", 2, 2)}, []impl.Hold{hold("ab1", 1, 0), hold("ab1", 1, 1), hold("ab1", 2, 1)})
	wantMap(t, h, "ab1", "xxxxxx")
	h.Pnrs = h.Pnrs[:1]
	wantMap(t, h, "ab1", "..xx.x")
}

func TestOwnsOf(t *testing.T) {
	h := baseHost()
	for house, want := range []int64{0, 2, 1, 0, 1, 0} { // 1.1 and 2.1; 1.2, for 4.2 is not Live; none; 4.1
		wantOwns(t, h, int64(house), want)
	}
	for _, house := range []int64{math.MinInt64, -1, 0, mostHouses + 1, 1<<32 + 1, math.MaxInt64} {
		wantOwns(t, h, house, 0)
	}
	h.Pnrs[2].Live = true
	wantOwns(t, h, 1, 3)
	h.Pnrs[0].Owner = 3
	wantOwns(t, h, 1, 2)
	wantOwns(t, h, 3, 1)
	all := newHost(nil)
	wantOwns(t, all, 1, 0)
	all.Pnrs = allPnrs()
	wantOwns(t, all, 1, mostLoc)
	for i := range all.Pnrs {
		all.Pnrs[i].Owner = 4
	}
	wantOwns(t, all, 4, mostHouses*mostLoc)
	wantOwns(t, all, 1, 0)
}

func TestAuditOf(t *testing.T) {
	for _, h := range rightHosts() {
		for house := int64(1); house <= mostHouses; house++ {
			wantAudit(t, h, house, h.Audits[house-1].Entries)
		}
		for _, house := range []int64{math.MinInt64, -1, 0, mostHouses + 1, 1<<32 + 1, math.MaxInt64} {
			wantAudit(t, h, house, nil)
		}
	}
}

func TestNextLoc(t *testing.T) {
	h := baseHost()
	for home, want := range map[int64]int64{1: 4, 2: 2, 3: 1, 4: 3} {
		wantNext(t, h, home, want)
		wantNext(t, newHost(h.Flights), home, 1)
	}
	h.Pnrs[3].Owner = 2 // whose it is counts for nothing
	wantNext(t, h, 1, 4)
	h.Pnrs = allPnrs()
	for home := int64(1); home <= mostHouses; home++ {
		wantNext(t, h, home, mostLoc+1)
	}
}

// TestNextLocOfNoHouse: there are no bookings of such a Home, so one more than none.
func TestNextLocOfNoHouse(t *testing.T) {
	for _, home := range []int64{math.MinInt64, -1, 0, mostHouses + 1, 1<<32 + 1, math.MaxInt64} {
		wantNext(t, baseHost(), home, 1)
		wantNext(t, newHost(nil), home, 1)
	}
}

// TestWhatTwoHousesBooked is the host behind some requests, written out: house 2 asked for a seat that house 1 holds.
func TestWhatTwoHousesBooked(t *testing.T) {
	h := newHost([]impl.Flight{{Name: "ab1", Rows: 1, Cols: 3}})
	h.Tokens = []impl.Token{{No: 1, House: 1, Role: 3, Till: 50}, {No: 2, House: 2, Role: 3, Till: 50}}
	h.Pnrs = []impl.Pnr{{Home: 1, Loc: 1, Owner: 1, Names: []string{"ann"}, Holds: []impl.Hold{hold("ab1", 1, 1)}, Live: true}, {Home: 2, Loc: 1, Owner: 2, Live: true}}
	h.Audits[0].Entries = []impl.Entry{{Kind: 1, Home: 1, Loc: 1}, {Kind: 2, Home: 1, Loc: 1}, {Kind: 3, Home: 1, Loc: 1}}
	h.Audits[1].Entries = []impl.Entry{{Kind: 1, Home: 2, Loc: 1}}
	wantMap(t, h, "ab1", ".x.")
	wantHolder(t, h, hold("ab1", 1, 1), h.Pnrs[0])
	wantFound(t, h, 1, 1, h.Pnrs[0])
	wantFound(t, h, 1, 2, impl.Pnr{})
	wantOwns(t, h, 1, 1)
	wantNext(t, h, 1, 2)
	wantNext(t, h, 3, 1)
	wantAudit(t, h, 1, h.Audits[0].Entries)
	wantAudit(t, h, 2, h.Audits[1].Entries)
	wantMap(t, h, "zz", "")
}

// someHost is a right host made by chance, from few flights, so that many seats are held.
func someHost(r *rand.Rand) impl.Host {
	h := newHost(nil)
	var free []impl.Hold
	for _, name := range []string{"a", "a1", "b", "zz9"} {
		if r.Intn(3) > 0 {
			f := impl.Flight{Name: name, Rows: int64(r.Intn(4)) + 1, Cols: int64(r.Intn(mostCols)) + 1}
			h.Flights = append(h.Flights, f)
			for n := range f.Rows * f.Cols {
				free = append(free, hold(name, n/f.Cols+1, n%f.Cols))
			}
		}
	}
	r.Shuffle(len(free), func(i, j int) { free[i], free[j] = free[j], free[i] })
	for home := int64(1); home <= mostHouses; home++ {
		for loc := int64(1); loc <= int64(r.Intn(mostLoc+1)); loc++ {
			p := impl.Pnr{Home: home, Loc: loc, Owner: int64(r.Intn(mostHouses)) + 1, Live: r.Intn(4) > 0}
			if n := r.Intn(min(mostHolds, len(free)) + 1); p.Live {
				p.Holds, free = slices.SortedFunc(slices.Values(free[:n]), holdOrder), free[n:]
			}
			h.Pnrs = append(h.Pnrs, p)
		}
	}
	for i := range h.Audits {
		h.Audits[i].Entries = entriesUpTo(r.Intn(5))
	}
	h.Tokens, h.Now = tokensUpTo(r.Intn(4), 9), r.Int63n(lastTime+1)
	return h
}

// turned gives a host with one thing turned by chance, which may leave it right.
func turned(r *rand.Rand, h impl.Host) impl.Host {
	h = hostCopy(h)
	some := func(n int) int { return r.Intn(max(n, 1)) }
	by := []int64{-1, 1, 2}[r.Intn(3)]
	flight, pnr, audit := some(len(h.Flights)), some(len(h.Pnrs)), some(len(h.Audits))
	switch kind := r.Intn(10); {
	case kind == 0 && len(h.Flights) > 0:
		h.Flights[flight].Rows -= by
	case kind == 1 && len(h.Flights) > 0:
		h.Flights[flight].Name = []string{"a", "a1", "b", "c", ""}[r.Intn(5)]
	case kind == 2 && len(h.Pnrs) > 0:
		h.Pnrs[pnr].Loc += by
	case kind == 3 && len(h.Pnrs) > 0:
		h.Pnrs[pnr].Home += by
	case kind == 4 && len(h.Pnrs) > 0:
		h.Pnrs = slices.Delete(h.Pnrs, pnr, pnr+1)
	case kind == 5 && len(h.Pnrs) > 0:
		other := h.Pnrs[some(len(h.Pnrs))]
		h.Pnrs[pnr].Holds, h.Pnrs[pnr].Live = slices.Clone(other.Holds), other.Live
	case kind == 6:
		h.Audits[audit].House += by
	case kind == 7:
		h.Audits[audit].Entries = append(h.Audits[audit].Entries, impl.Entry{Kind: r.Int63n(9), Home: r.Int63n(6), Loc: r.Int63n(11)})
	case kind == 8:
		h.Now = []int64{-1, 0, lastTime, lastTime + 1}[r.Intn(4)]
	case kind == 9:
		h.Tokens = append(h.Tokens, tokenOf(int64(8+r.Intn(3))))
	}
	return h
}

// isHost is HostRight told in another way.
func isHost(h impl.Host) bool {
	flights := map[string]impl.Flight{}
	for _, f := range h.Flights {
		flights[f.Name] = f
	}
	right := len(h.Flights) <= mostFlights && len(flights) == len(h.Flights) && !slices.ContainsFunc(h.Flights, func(f impl.Flight) bool { return !impl.FlightRight(f) }) &&
		slices.IsSortedFunc(h.Flights, func(a, b impl.Flight) int { return strings.Compare(a.Name, b.Name) })
	there, held := map[[2]int64]bool{}, map[impl.Hold]bool{}
	for _, p := range h.Pnrs {
		right = right && impl.PnrRight(p) && !there[[2]int64{p.Home, p.Loc}] && (p.Loc == 1 || there[[2]int64{p.Home, p.Loc - 1}])
		there[[2]int64{p.Home, p.Loc}] = true
		for _, x := range p.Holds {
			right = right && !held[x] && impl.SeatIn(flights[x.Flight], x.Seat)
			held[x] = true
		}
	}
	right = right && slices.IsSortedFunc(h.Pnrs, func(a, b impl.Pnr) int { return cmp.Or(cmp.Compare(a.Home, b.Home), cmp.Compare(a.Loc, b.Loc)) })
	houses := []int64{}
	for _, a := range h.Audits {
		houses = append(houses, a.House)
		right = right && len(a.Entries) <= mostList && !slices.ContainsFunc(a.Entries, func(e impl.Entry) bool { return slices.Contains(wrongEntryFields(e), true) })
	}
	return right && slices.Equal(houses, []int64{1, 2, 3, 4}) && impl.TokensRight(h.Tokens) && h.Now >= 0 && h.Now <= lastTime
}

// wrongEntryFields tells of each field of an entry whether it is out of what it may be.
func wrongEntryFields(e impl.Entry) []bool {
	return []bool{e.Kind < firstKind, e.Kind > lastKind, e.Home < 1, e.Home > mostHouses, e.Loc < 1, e.Loc > mostLoc}
}

func TestHostRightOfHostsByChance(t *testing.T) {
	r := rand.New(rand.NewSource(6))
	right := 0
	for range 4000 {
		h := someHost(r)
		if !impl.HostRight(h) {
			t.Fatalf("this host is right: %+v", h)
		}
		h = turned(r, h)
		want := isHost(h)
		if got := impl.HostRight(h); got != want {
			t.Fatalf("got %v of %+v", got, h)
		}
		if want {
			right++
		}
	}
	if right < 200 || right > 3800 {
		t.Errorf("%d of 4000 hosts are right: these try too little", right)
	}
}

// TestASeatIsTakenJustIfOneBookingHoldsIt is promise 6.
func TestASeatIsTakenJustIfOneBookingHoldsIt(t *testing.T) {
	r := rand.New(rand.NewSource(66))
	for range 500 {
		h := someHost(r)
		was := hostCopy(h)
		for _, f := range h.Flights {
			wantTaken(t, h, f)
		}
		if !sameHosts(h, was) {
			t.Fatalf("the host is %+v behind it, was %+v", h, was)
		}
	}
}

// wantTaken looks at each seat of a flight, on its map and by who holds it.
func wantTaken(t *testing.T, h impl.Host, f impl.Flight) {
	t.Helper()
	shows := impl.MapOf(h, f.Name)
	if len(shows) != int(f.Rows*f.Cols) {
		t.Fatalf("the map of %+v has %d places", f, len(shows))
	}
	for n := range shows {
		x := impl.Hold{Flight: f.Name, Seat: impl.SeatAt(f, int64(n)).Seat}
		var who []impl.Pnr
		for _, p := range h.Pnrs {
			if slices.Contains(p.Holds, x) {
				who = append(who, p)
			}
		}
		switch {
		case len(who) == 1 && shows[n] == 'x':
			wantHolder(t, h, x, who[0])
		case len(who) == 0 && shows[n] == '.':
			wantHolder(t, h, x, impl.Pnr{})
		default:
			t.Errorf("%v is held by %d, and is %q on the map", x, len(who), shows[n])
		}
	}
}

func TestFlightsOfANewHostAreNewMemory(t *testing.T) {
	l := flightsUpTo(mostFlights + 2)[:2]
	name := rep("a", 3) + strconv.Itoa(len(l))
	l[0].Name = name
	h := impl.HostNew(l).Host
	if sharesMemory(h.Flights[0].Name, name) {
		t.Error("the Name is that of the argument")
	}
	was := slices.Clone(l[:4])
	h.Flights[0].Rows = 20
	_ = append(h.Flights, impl.Flight{}, impl.Flight{})
	if !slices.Equal(l[:4], was) {
		t.Errorf("the argument is %v behind it, was %v", l[:4], was)
	}
	l[1].Cols = 6
	if h.Flights[1].Cols == 6 {
		t.Error("the host's flights are the argument's")
	}
}

// TestListsOfANewHostShareNoMemory writes behind the end of each.
func TestListsOfANewHostShareNoMemory(t *testing.T) {
	a, b := impl.HostNew(flightsUpTo(2)).Host, impl.HostNew(flightsUpTo(2)).Host
	for i := range a.Audits {
		_ = append(a.Audits[i].Entries, entriesUpTo(3)...)
		a.Audits[i].House = 9
	}
	want := newHost(flightsUpTo(2))
	if !sameHosts(b, want) || !sameHosts(impl.HostNew(flightsUpTo(2)).Host, want) {
		t.Error("a new host is no more what it was")
	}
}

// wantOwnMemory writes over a booking that was told, and looks at the host, and at what it tells anew.
func wantOwnMemory(t *testing.T, h impl.Host, ask func() impl.Pnr, place int) {
	t.Helper()
	was, p := hostCopy(h), ask()
	for _, name := range h.Pnrs[place].Names {
		if slices.ContainsFunc(p.Names, func(told string) bool { return sharesMemory(told, name) }) {
			t.Error("a name that is told is that of the host")
		}
	}
	for _, x := range h.Pnrs[place].Holds {
		if slices.ContainsFunc(p.Holds, func(told impl.Hold) bool { return sharesMemory(told.Flight, x.Flight) }) {
			t.Error("a flight that is told is that of the host")
		}
	}
	p.Names[0], p.Holds[0] = "over", hold("over", 9, 9)
	_, _ = append(p.Names, "more"), append(p.Holds, hold("more", 9, 9))
	if !reflect.DeepEqual(h, was) {
		t.Errorf("the host is %+v behind it, was %+v", h, was)
	}
	if !alike(ask(), was.Pnrs[place]) {
		t.Error("what is told anew is not what it was")
	}
}

func TestBookingsThatAreToldAreNewMemory(t *testing.T) {
	h := baseHost()
	names := append(make([]string, 0, 4), rep("b", 2)+strconv.Itoa(2))
	h.Pnrs[0].Names = names
	h.Pnrs[0].Holds = append(make([]impl.Hold, 0, 4), hold(strings.Clone("ab1"), 1, 0))
	wantOwnMemory(t, h, func() impl.Pnr { return impl.FindPnr(h, 1, 1) }, 0)
	wantOwnMemory(t, h, func() impl.Pnr { return impl.WhoHolds(h, hold("ab1", 1, 0)) }, 0)
	if spare := names[:2][1]; spare != "" {
		t.Errorf("behind the host's names stands %q", spare)
	}
}

func TestEntriesThatAreToldAreNewMemory(t *testing.T) {
	h := baseHost()
	h.Audits[0].Entries = append(make([]impl.Entry, 0, 9), h.Audits[0].Entries...)
	was := hostCopy(h)
	told := impl.AuditOf(h, 1)
	told[0].Loc = 7
	_ = append(told, impl.Entry{Kind: 7, Home: 7, Loc: 7})
	if !sameHosts(h, was) {
		t.Errorf("the host is %+v behind it", h)
	}
	if spare := h.Audits[0].Entries[:4][3]; spare != (impl.Entry{}) {
		t.Errorf("behind the host's entries stands %v", spare)
	}
	h.Audits[0].Entries[1].Loc = 8
	if told[1].Loc == 8 {
		t.Error("what was told turns with the host")
	}
}
