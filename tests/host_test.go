package tests

import (
	"fmt"
	"math"
	"math/rand"
	"reflect"
	"slices"
	"strconv"
	"strings"
	"testing"

	"loop.example/g00755/impl"
)

const (
	badThere  = 7
	badState  = 10
	badDenied = 11
	quota     = 5
)

// pnrsOf are the bookings of these texts.
func pnrsOf(texts ...string) []impl.Pnr {
	var l []impl.Pnr
	for _, text := range texts {
		l = append(l, impl.PnrRead(text).Pnr)
	}
	return l
}

// reqsOf are the requests of these texts, and the zero one of a text of none.
func reqsOf(texts ...string) []impl.Req {
	var l []impl.Req
	for _, text := range texts {
		l = append(l, impl.ReqRead(text).Req)
	}
	return l
}

// deskTokens are tokens of the roles: of chiefs those of 1 to 4 each of that house. At 20, 7 shows for the last time, and 8 no more.
func deskTokens() []impl.Token {
	return []impl.Token{{No: 1, House: 1, Role: 3, Till: 50}, {No: 2, House: 2, Role: 3, Till: 50}, {No: 3, House: 3, Role: 3, Till: 50}, {No: 4, House: 4, Role: 3, Till: lastTime},
		{No: 5, House: 1, Role: 1, Till: 50}, {No: 6, House: 1, Role: 2, Till: 50}, {No: 7, House: 1, Role: 3, Till: 20}, {No: 8, House: 1, Role: 3, Till: 19},
		{No: 12, House: 2, Role: 1, Till: 20}, {No: mostNo, House: 2, Role: 2, Till: 20}}
}

// deskHost is a host at which each kind can be done, and refused. House 1 owns one live booking fewer than it may.
func deskHost() impl.Host {
	h := newHost([]impl.Flight{{Name: "ab1", Rows: 2, Cols: 3}, {Name: "b", Rows: 1, Cols: 1}, {Name: "cd2", Rows: 20, Cols: 6}})
	h.Pnrs = pnrsOf("1.1 of 1 live to 2 +ann ab1:1a cd2:20f", "1.2 of 1 live +a +b +c +d", "1.3 of 1 gone +eve", "1.4 of 2 live +bob ab1:2c",
		"1.5 of 1 live cd2:1a cd2:1b cd2:1c cd2:1d", "2.1 of 1 live +zed", "2.2 of 2 live to 1 b:1a", "2.3 of 2 gone", "3.1 of 3 live to 1 ab1:1b")
	h.Tokens, h.Now = deskTokens(), 20
	h.Audits[0].Entries = []impl.Entry{{Kind: 1, Home: 1, Loc: 1}, {Kind: 2, Home: 1, Loc: 1}}
	h.Audits[2].Entries = []impl.Entry{{Kind: 7, Home: 1, Loc: 1}}
	return h
}

// deskWith gives deskHost with one thing changed.
func deskWith(change func(h *impl.Host)) impl.Host {
	h := deskHost()
	change(&h)
	return h
}

// pnrTurned gives a change of one booking: it is that of the text then.
func pnrTurned(text string) func(h *impl.Host) {
	p := impl.PnrRead(text).Pnr
	return func(h *impl.Host) {
		for i := range h.Pnrs {
			if h.Pnrs[i].Home == p.Home && h.Pnrs[i].Loc == p.Loc {
				h.Pnrs[i] = p
			}
		}
	}
}

// pnrMade gives the change that there is one more booking, at that place.
func pnrMade(place int, text string) func(h *impl.Host) {
	return func(h *impl.Host) {
		h.Pnrs = slices.Insert(h.Pnrs, place, pnrsOf(text)...)
	}
}

func unchanged(*impl.Host) {}

// wantDo also looks whether what is handed in stays as it was, and whether the host that is told is right.
func wantDo(t *testing.T, h impl.Host, r impl.Req, want impl.DoOut) {
	t.Helper()
	was := hostCopy(h)
	got := impl.Do(h, r)
	what := fmt.Sprintf("Do of %.100q", impl.ReqText(r))
	if got.Code != want.Code || got.Reply != want.Reply {
		t.Errorf("%s: got %d, %+v, want %d, %+v", what, got.Code, got.Reply, want.Code, want.Reply)
	}
	if !sameHosts(got.Host, want.Host) {
		t.Errorf("%s: got the host %.2000v, want %.2000v", what, got.Host, want.Host)
	}
	if want.Code == ok && !impl.HostRight(got.Host) {
		t.Errorf("%s: the host is not right: %.2000v", what, got.Host)
	}
	if !sameHosts(h, was) {
		t.Errorf("%s: the argument is %.2000v behind it", what, h)
	}
}

// wantDone asks for what is told, for the change, and for what is written down for the house that asks.
func wantDone(t *testing.T, h impl.Host, text, told string, change func(h *impl.Host)) {
	t.Helper()
	r := impl.ReqRead(text).Req
	want := hostCopy(h)
	change(&want)
	if r.Kind <= lastKind {
		entry := impl.Entry{Kind: r.Kind, Home: r.Home, Loc: r.Loc}
		if r.Kind == impl.RqMake {
			entry.Home, entry.Loc = int64(told[0]-'0'), int64(told[2]-'0')
		}
		a := &want.Audits[impl.Shows(h.Tokens, r.Token, h.Now).House-1]
		a.Entries = append(a.Entries, entry)
	}
	wantDo(t, h, r, impl.DoOut{Host: want, Reply: impl.Reply{Text: told}})
}

// wantRefused asks for a code, and for a host that nothing has changed.
func wantRefused(t *testing.T, h impl.Host, text string, code int64) {
	t.Helper()
	wantDo(t, h, impl.ReqRead(text).Req, impl.DoOut{Host: h, Reply: impl.Reply{Code: code}})
}

func TestDeskHostIsRight(t *testing.T) {
	if h := deskHost(); !impl.HostRight(h) || impl.OwnsOf(h, 1) != quota-1 {
		t.Errorf("house 1 owns %d of %+v", impl.OwnsOf(h, 1), h)
	}
}

func TestEachKindDone(t *testing.T) {
	for _, c := range []struct {
		text, told string
		change     func(h *impl.Host)
	}{
		{"make 1", "1.6", pnrMade(5, "1.6 of 1 live")},
		{"make 2", "2.4", pnrMade(8, "2.4 of 2 live")},
		{"make 3", "3.2", pnrMade(9, "3.2 of 3 live")},
		{"make 4", "4.1", pnrMade(9, "4.1 of 4 live")},
		{"make 6", "1.6", pnrMade(5, "1.6 of 1 live")},
		{"make 7", "1.6", pnrMade(5, "1.6 of 1 live")}, // at its Till
		{"make 999", "2.4", pnrMade(8, "2.4 of 2 live")},
		{"name 1 1.1 bob", "ok", pnrTurned("1.1 of 1 live to 2 +ann +bob ab1:1a cd2:20f")},
		{"name 1 1.1 ann", "ok", pnrTurned("1.1 of 1 live to 2 +ann +ann ab1:1a cd2:20f")},
		{"name 6 1.5 0", "ok", pnrTurned("1.5 of 1 live +0 cd2:1a cd2:1b cd2:1c cd2:1d")},
		{"name 1 2.1 ann", "ok", pnrTurned("2.1 of 1 live +zed +ann")}, // which house 2 made, and house 1 owns
		{"name 2 1.4 abcdefgh", "ok", pnrTurned("1.4 of 2 live +bob +abcdefgh ab1:2c")},
		{"hold 1 1.1 ab1 2a", "ok", pnrTurned("1.1 of 1 live to 2 +ann ab1:1a ab1:2a cd2:20f")},
		{"hold 1 1.2 ab1 1c", "ok", pnrTurned("1.2 of 1 live +a +b +c +d ab1:1c")},
		{"hold 6 2.1 cd2 2a", "ok", pnrTurned("2.1 of 1 live +zed cd2:2a")},
		{"hold 2 1.4 ab1 2a", "ok", pnrTurned("1.4 of 2 live +bob ab1:2a ab1:2c")},
		{"hold 2 2.2 cd2 20e", "ok", pnrTurned("2.2 of 2 live to 1 b:1a cd2:20e")},
		{"free 1 1.1 ab1 1a", "ok", pnrTurned("1.1 of 1 live to 2 +ann cd2:20f")},
		{"free 1 1.1 cd2 20f", "ok", pnrTurned("1.1 of 1 live to 2 +ann ab1:1a")},
		{"free 6 1.5 cd2 1b", "ok", pnrTurned("1.5 of 1 live cd2:1a cd2:1c cd2:1d")},
		{"free 1 1.5 cd2 1d", "ok", pnrTurned("1.5 of 1 live cd2:1a cd2:1b cd2:1c")},
		{"free 2 1.4 ab1 2c", "ok", pnrTurned("1.4 of 2 live +bob")},
		{"cancel 1 1.1", "ok", pnrTurned("1.1 of 1 gone +ann")}, // with holds and an offer
		{"cancel 1 1.2", "ok", pnrTurned("1.2 of 1 gone +a +b +c +d")},
		{"cancel 6 2.1", "ok", pnrTurned("2.1 of 1 gone +zed")},
		{"cancel 2 2.2", "ok", pnrTurned("2.2 of 2 gone")},
		{"offer 1 1.1 2", "ok", unchanged}, // but for what is written down
		{"offer 1 1.1 3", "ok", pnrTurned("1.1 of 1 live to 3 +ann ab1:1a cd2:20f")},
		{"offer 1 1.2 4", "ok", pnrTurned("1.2 of 1 live to 4 +a +b +c +d")},
		{"offer 1 2.1 2", "ok", pnrTurned("2.1 of 1 live to 2 +zed")},
		{"offer 2 1.4 1", "ok", pnrTurned("1.4 of 2 live to 1 +bob ab1:2c")},
		{"take 1 2.2", "ok", pnrTurned("2.2 of 1 live b:1a")},
		{"take 1 3.1", "ok", pnrTurned("3.1 of 1 live ab1:1b")},
		{"take 2 1.1", "ok", pnrTurned("1.1 of 2 live +ann ab1:1a cd2:20f")},
		{"read 1 1.1", "1.1 of 1 live to 2 +ann ab1:1a cd2:20f", unchanged},
		{"read 5 1.3", "1.3 of 1 gone +eve", unchanged},
		{"read 6 2.1", "2.1 of 1 live +zed", unchanged},
		{"read 12 1.4", "1.4 of 2 live +bob ab1:2c", unchanged},
		{"read 2 2.3", "2.3 of 2 gone", unchanged},
		{"map 1 ab1", "xx...x", unchanged},
		{"map 5 b", "x", unchanged},
		{"map 4 cd2", "xxxx" + rep(".", 115) + "x", unchanged},
		{"audit 1", "make 1.1,name 1.1", unchanged},
		{"audit 2", "-", unchanged},
		{"audit 3", "take 1.1", unchanged},
	} {
		t.Run(c.text, func(t *testing.T) {
			wantDone(t, deskHost(), c.text, c.told, c.change)
		})
	}
}

func TestEachKindRefused(t *testing.T) {
	for code, texts := range map[int64][]string{
		badDenied: {"make 9", "make 10", "make 998", "audit 13", "map 9 ab1", "read 9 1.1", // tokens that there are not
			"make 8", "read 8 1.1", "map 8 ab1", "audit 8", // of the last moment
			"make 5", "name 5 1.1 x", "hold 5 1.2 ab1 1c", "free 5 1.1 ab1 1a", "cancel 5 1.1", "offer 5 1.1 3", "take 5 2.2", "audit 5", // of who may read
			"offer 6 1.1 3", "take 6 2.2", "audit 6", "make 12", "offer 999 1.4 1", // of who books
			"name 5 1.9 x", "cancel 8 1.3", "hold 9 4.4 zz 1a", "offer 6 1.1 1", "map 8 zz", "read 9 4.4"}, // ahead of all other codes
		badNone: {"name 1 1.6 x", "hold 1 1.9 ab1 1c", "free 1 2.4 b 1a", "cancel 1 3.2", "offer 1 4.1 2", "take 1 4.1", "read 1 4.9", // that there are not
			"name 1 1.4 x", "hold 1 1.4 ab1 1c", "free 1 1.4 ab1 2c", "cancel 1 1.4", "offer 1 1.4 3", "read 1 1.4", // that it made, and another house owns
			"name 2 2.1 x", "cancel 2 2.1", "read 2 2.1",
			"name 2 1.1 x", "hold 2 1.1 ab1 1c", "free 2 1.1 ab1 1a", "cancel 2 1.1", "offer 2 1.1 3", "read 2 1.1", "read 12 1.1", // that are just offered to it
			"take 1 1.1", "take 1 2.1", "take 1 1.2", "take 2 2.2", "take 2 1.4", "take 1 1.3", // its own, offered to another one or to none
			"take 3 1.1", "take 4 2.2", "take 2 1.2", "take 3 2.1", "take 1 2.3", "take 2 2.3", "take 1 1.4", // not offered to it
			"name 1 2.3 x", "cancel 1 2.3", "offer 1 2.3 1", "read 1 2.3", "read 3 1.3", // of another house, and not live
			"hold 1 1.9 zz 1a", "hold 2 1.1 zz 1a", "hold 2 1.1 ab1 1a", "hold 2 1.5 ab1 1c", "name 2 1.2 e", "free 2 1.1 zz 1a", "offer 2 1.1 2", "offer 1 1.9 1", // ahead of the codes behind
			"map 1 zz", "map 1 ab", "map 1 ab11", "map 5 a", "map 2 cd"}, // that no flight is
		badState: {"name 1 1.3 x", "hold 1 1.3 ab1 1c", "free 1 1.3 ab1 1a", "cancel 1 1.3", "offer 1 1.3 2", "name 2 2.3 x", "cancel 999 2.3",
			"hold 1 1.3 zz 1a", "hold 1 1.3 ab1 1a", "free 1 1.3 zz 1a", "offer 1 1.3 1"}, // ahead of the codes behind
		badRange: {"hold 1 1.1 zz 1a", "hold 1 1.1 ab 1a", "hold 1 1.1 ab1 3a", "hold 1 1.1 ab1 1d", "hold 1 1.1 b 1b", "hold 1 1.1 b 2a", "hold 2 2.2 ab1 20f",
			"hold 1 1.5 zz 1a", "hold 1 1.5 ab1 3a", // ahead of ErrFull
			"free 1 1.1 ab1 1b", "free 1 1.1 ab1 1c", "free 1 1.1 zz 1a", "free 1 1.1 ab1 3a", "free 1 1.2 ab1 1a", "free 1 2.1 b 1a", "free 2 2.2 ab1 2c",
			"offer 1 1.1 1", "offer 1 1.2 1", "offer 2 1.4 2", "offer 3 3.1 3"},
		badThere: {"hold 1 1.1 ab1 1a", "hold 1 1.1 cd2 20f", "hold 1 1.1 ab1 1b", "hold 1 1.2 ab1 1a", "hold 1 1.1 b 1a", "hold 2 2.2 b 1a", "hold 3 3.1 ab1 2c",
			"hold 1 1.5 ab1 1a", "hold 1 1.5 cd2 1a", "hold 1 1.5 b 1a"}, // ahead of ErrFull
		badFull: {"name 1 1.2 e", "name 6 1.2 a", "hold 1 1.5 ab1 1c", "hold 6 1.5 cd2 20e"},
	} {
		for _, text := range texts {
			t.Run(text, func(t *testing.T) {
				wantRefused(t, deskHost(), text, code)
			})
		}
	}
}

// TestEachRoleAsksEachKind asks with tokens of house 1 for what it could do with the role of a chief.
func TestEachRoleAsksEachKind(t *testing.T) {
	for role := int64(1); role <= mostRole; role++ {
		for _, text := range []string{"make 1", "name 1 1.1 x", "hold 1 1.1 ab1 1c", "free 1 1.1 ab1 1a", "cancel 1 1.1", "offer 1 1.1 3", "take 1 2.2", "read 1 1.1", "map 1 ab1", "audit 1"} {
			h := deskHost()
			h.Tokens[0].Role = role
			word, _, _ := strings.Cut(text, " ")
			want := int64(badDenied)
			if strings.Contains(mayKinds[role], " "+word+" ") {
				want = ok
			}
			got := impl.Do(h, impl.ReqRead(text).Req)
			if got.Reply.Code != want {
				t.Errorf("role %d, %s: got %+v, want %d", role, text, got.Reply, want)
			}
			if want != ok {
				wantRefused(t, h, text, want)
			}
		}
	}
}

// TestATokenAtItsTill looks one ahead of Till, at it, and one behind it.
func TestATokenAtItsTill(t *testing.T) {
	for _, till := range []int64{0, 1, 50, lastTime} {
		for now := max(till-1, 0); now <= min(till+1, lastTime); now++ {
			h := deskHost()
			h.Tokens[0].Till, h.Now = till, now
			if now <= till {
				wantDone(t, h, "make 1", "1.6", pnrMade(5, "1.6 of 1 live"))
				wantDone(t, h, "read 1 1.3", "1.3 of 1 gone +eve", unchanged)
			} else {
				wantRefused(t, h, "make 1", badDenied)
				wantRefused(t, h, "read 1 1.3", badDenied)
			}
		}
	}
	wantRefused(t, deskWith(func(h *impl.Host) { h.Tokens = nil }), "make 1", badDenied)
}

func TestDoRefusesWhatIsNotRight(t *testing.T) {
	form := impl.DoOut{Code: badForm}
	for _, c := range wrongHosts() {
		t.Run(c.what, func(t *testing.T) {
			for _, r := range reqsOf("make 1", "read 1 1.1", "map 3 ab1", "audit 500") {
				wantDo(t, c.host, r, form)
			}
			wantDo(t, c.host, impl.Req{}, form)
		})
	}
	h := deskHost()
	for _, c := range wrongReqs() {
		if got := impl.Do(h, c.req); !reflect.DeepEqual(got, form) {
			t.Errorf("%s: got %+v", c.what, got)
		}
	}
	if !sameHosts(h, deskHost()) {
		t.Errorf("the host is %+v behind it", h)
	}
}

// owning is a host at which a house made, owns and lost so many bookings, as told: "o" is live and its own, "g" gone, "l" lost to house 2.
func owning(house int64, told string) impl.Host {
	return deskWith(func(h *impl.Host) {
		h.Pnrs = nil
		for i, c := range told {
			p := impl.Pnr{Home: house, Loc: int64(i) + 1, Owner: house, Live: c != 'g'}
			if c == 'l' {
				p.Owner = house%mostHouses + 1
			}
			h.Pnrs = append(h.Pnrs, p)
		}
	})
}

func TestMakeUpToTheQuota(t *testing.T) {
	for told, full := range map[string]bool{
		"": false, "o": false, "ooo": false, "oooo": false, "ooooo": true, "oooooo": true, "ooooooooo": true,
		"oooog": false, "ggggoooo": false, "gooooo": true, "ooooog": true, "oogooo": true, "gggggggg": false, "ggggggggg": true,
		"oooolll": false, "llllllll": false, "lllllllll": true, "llllooooo": true, "lllloooo": false, "lllllgggg": true, "oooolllll": true,
	} {
		for house := int64(1); house <= mostHouses; house++ {
			h, text := owning(house, told), "make "+strconv.Itoa(int(house))
			if full {
				wantRefused(t, h, text, badFull)
				continue
			}
			place := strconv.Itoa(int(house)) + "." + strconv.Itoa(len(told)+1)
			wantDone(t, h, text, place, pnrMade(len(told), place+" of "+strconv.Itoa(int(house))+" live"))
		}
	}
}

// TestMakeWithOnesTakenFromAnotherHouse counts these as its own, though it did not make them.
func TestMakeWithOnesTakenFromAnotherHouse(t *testing.T) {
	h := owning(1, "oooll")
	h.Pnrs = append(h.Pnrs, pnrsOf("2.1 of 1 live", "3.1 of 1 live")...)
	wantRefused(t, h, "make 1", badFull)
	wantDone(t, h, "make 2", "2.2", pnrMade(6, "2.2 of 2 live"))
	h.Pnrs[5] = pnrsOf("2.1 of 1 gone")[0]
	wantDone(t, h, "make 1", "1.6", pnrMade(5, "1.6 of 1 live"))
	h.Pnrs[5] = pnrsOf("2.1 of 2 live to 1")[0] // what is just offered counts for nothing
	wantDone(t, h, "make 1", "1.6", pnrMade(5, "1.6 of 1 live"))
}

// TestMakeStandsBehindItsHome puts a new booking between those of other houses.
func TestMakeStandsBehindItsHome(t *testing.T) {
	h := deskWith(func(h *impl.Host) { h.Pnrs = slices.Concat(madeBy(1, 1, 2), madeBy(3, 1)) })
	wantDone(t, h, "make 1", "1.3", pnrMade(2, "1.3 of 1 live"))
	wantDone(t, h, "make 2", "2.1", pnrMade(2, "2.1 of 2 live"))
	wantDone(t, h, "make 3", "3.2", pnrMade(3, "3.2 of 3 live"))
	wantDone(t, h, "make 4", "4.1", pnrMade(3, "4.1 of 4 live"))
	wantDone(t, deskWith(func(h *impl.Host) { h.Pnrs = madeBy(2, 1) }), "make 1", "1.1", pnrMade(0, "1.1 of 1 live"))
}

func TestTakeUpToTheQuota(t *testing.T) {
	for told, full := range map[string]bool{"": false, "oooo": false, "ooooo": true, "oooooo": true, "oooogg": false, "gggggggg": false, "oooollll": false, "lllllllll": false, "ooooolll": true} {
		h := owning(1, told)
		h.Pnrs = append(h.Pnrs, pnrsOf("3.1 of 3 live to 1 +ann ab1:1a", "4.1 of 4 live to 2")...)
		if full {
			wantRefused(t, h, "take 1 3.1", badFull)
		} else {
			wantDone(t, h, "take 1 3.1", "ok", pnrTurned("3.1 of 1 live +ann ab1:1a"))
		}
		wantRefused(t, h, "take 1 4.1", badNone) // offered to another house, ahead of ErrFull
		wantRefused(t, h, "take 1 4.2", badNone)
	}
}

// TestWhatIsTakenComesBack: a booking that was taken is offered, and taken, again, by who made it, too.
func TestWhatIsTakenComesBack(t *testing.T) {
	h := deskHost()
	for _, c := range [][2]string{
		{"take 2 1.1", "1.1 of 2 live +ann ab1:1a cd2:20f"},
		{"offer 2 1.1 3", "1.1 of 2 live to 3 +ann ab1:1a cd2:20f"},
		{"offer 2 1.1 1", "1.1 of 2 live to 1 +ann ab1:1a cd2:20f"},
		{"take 1 1.1", "1.1 of 1 live +ann ab1:1a cd2:20f"},
	} {
		wantDone(t, h, c[0], "ok", pnrTurned(c[1]))
		h = impl.Do(h, impl.ReqRead(c[0]).Req).Host
	}
	wantRefused(t, h, "take 2 1.1", badNone)
	wantRefused(t, h, "take 3 1.1", badNone)
}

// fullAudit is deskHost with so many entries for house 1.
func fullAudit(n int) impl.Host {
	return deskWith(func(h *impl.Host) { h.Audits[0].Entries = entriesUpTo(n) })
}

func TestAnAuditThatIsFull(t *testing.T) {
	h := fullAudit(mostList)
	for _, text := range []string{"make 1", "name 1 1.1 x", "hold 1 1.1 ab1 1c", "free 1 1.1 ab1 1a", "cancel 1 1.1", "offer 1 1.1 3", "take 1 2.2", // which would be done
		"name 1 4.1 x", "take 1 1.1", "cancel 1 4.4", "free 1 1.4 ab1 2c", // ahead of ErrNone
		"name 1 1.3 x", "cancel 1 1.3", "hold 1 1.3 zz 1a", // ahead of ErrState
		"hold 1 1.1 zz 1a", "offer 1 1.1 1", "free 1 1.1 ab1 1c", // ahead of ErrRange
		"hold 1 1.1 ab1 1a", "name 1 1.2 e", "hold 1 1.5 ab1 1c"} {
		wantRefused(t, h, text, badFull)
	}
	for _, text := range []string{"make 8", "make 9", "make 5", "offer 6 1.1 3", "take 6 2.2", "cancel 5 4.4"} {
		wantRefused(t, h, text, badDenied)
	}
	wantDone(t, h, "read 1 1.3", "1.3 of 1 gone +eve", unchanged)
	wantRefused(t, h, "read 1 4.4", badNone)
	wantDone(t, h, "map 1 b", "x", unchanged)
	wantRefused(t, h, "map 1 zz", badNone)
	wantDone(t, h, "audit 1", toldEntries(entriesUpTo(mostList)), unchanged)
	wantDone(t, h, "make 2", "2.4", pnrMade(8, "2.4 of 2 live")) // what is written down for another house counts for nothing
	wantDone(t, h, "take 2 1.1", "ok", pnrTurned("1.1 of 2 live +ann ab1:1a cd2:20f"))
}

// TestTheLastEntry: one below the most, what is done is written down, and then nothing more.
func TestTheLastEntry(t *testing.T) {
	for text, told := range map[string]string{"make 1": "1.6", "name 1 1.1 x": "ok", "hold 1 1.1 ab1 1c": "ok", "free 1 1.1 ab1 1a": "ok", "cancel 1 1.1": "ok", "offer 1 1.1 3": "ok", "take 1 2.2": "ok"} {
		got := impl.Do(fullAudit(mostList-1), impl.ReqRead(text).Req)
		if got.Code != ok || got.Reply != (impl.Reply{Text: told}) || len(got.Host.Audits[0].Entries) != mostList {
			t.Errorf("%s: got %d, %+v and %d entries", text, got.Code, got.Reply, len(got.Host.Audits[0].Entries))
		}
		wantRefused(t, got.Host, text, badFull)
	}
	wantRefused(t, fullAudit(mostList-1), "cancel 1 1.3", badState)
}

// toldEntries is what an RqAudit tells of entries, told in another way.
func toldEntries(l []impl.Entry) string {
	text := ""
	for _, e := range l {
		text += "," + kindWords[e.Kind] + " " + strconv.Itoa(int(e.Home)) + "." + strconv.Itoa(int(e.Loc))
	}
	if text == "" {
		return "-"
	}
	return text[1:]
}

func TestAuditTellsEachEntry(t *testing.T) {
	for kind := int64(firstKind); kind <= lastKind; kind++ {
		for _, e := range []impl.Entry{{Kind: kind, Home: 1, Loc: 1}, {Kind: kind, Home: mostHouses, Loc: mostLoc}} {
			for house := int64(1); house <= mostHouses; house++ {
				h := deskHost()
				h.Audits[house-1].Entries = []impl.Entry{e}
				wantDone(t, h, "audit "+strconv.Itoa(int(house)), toldEntries([]impl.Entry{e}), unchanged)
			}
		}
	}
	for _, n := range []int{0, 1, 2, 3, 9, mostList - 1, mostList} {
		wantDone(t, fullAudit(n), "audit 1", toldEntries(entriesUpTo(n)), unchanged)
	}
	most := fullAudit(0)
	for range mostList {
		most.Audits[0].Entries = append(most.Audits[0].Entries, impl.Entry{Kind: impl.RqCancel, Home: 4, Loc: 9})
	}
	wantDone(t, most, "audit 1", strings.TrimSuffix(rep("cancel 4.9,", mostList), ","), unchanged)
}

func TestChanges(t *testing.T) {
	for kind := int64(-3); kind <= mostKind+3; kind++ {
		if got, want := impl.Changes(kind), kind >= 1 && kind <= 7; got != want {
			t.Errorf("kind %d: got %v", kind, got)
		}
	}
	for _, kind := range []int64{math.MinInt64, math.MinInt64 + 1, 1<<32 + 1, -1 << 32, math.MaxInt64} {
		if impl.Changes(kind) {
			t.Errorf("kind %d, which is none, changes something", kind)
		}
	}
}

// wantHostOut also looks whether what is handed in stays as it was.
func wantHostOut(t *testing.T, what string, h impl.Host, call func(h impl.Host) impl.HostOut, want impl.HostOut) {
	t.Helper()
	was := hostCopy(h)
	got := call(h)
	if got.Code != want.Code || !sameHosts(got.Host, want.Host) {
		t.Errorf("%s: got %.2000v, want %.2000v", what, got, want)
	}
	if want.Code == ok && !impl.HostRight(got.Host) {
		t.Errorf("%s: the host is not right", what)
	}
	if !sameHosts(h, was) {
		t.Errorf("%s: the argument is %.2000v behind it", what, h)
	}
}

func wantTick(t *testing.T, h impl.Host, by int64, want impl.HostOut) {
	t.Helper()
	wantHostOut(t, fmt.Sprintf("Tick of %d by %d", h.Now, by), h, func(h impl.Host) impl.HostOut { return impl.Tick(h, by) }, want)
}

func TestTick(t *testing.T) {
	for _, now := range []int64{0, 1, 20, lastTime - 1, lastTime} {
		for _, by := range []int64{math.MinInt64, math.MinInt64 + 1, -1 << 32, -lastTime, -21, -20, -1, 0, 1, 2, 19, lastTime - 21, lastTime - 20, lastTime - 19, lastTime - 1,
			lastTime, lastTime + 1, 1 << 32, math.MaxInt64 - lastTime, math.MaxInt64 - 1, math.MaxInt64} {
			h := deskHost()
			h.Now = now
			switch later := hostCopy(h); {
			case by < 0:
				wantTick(t, h, by, impl.HostOut{Code: badForm})
			case by > lastTime || now+by > lastTime:
				wantTick(t, h, by, impl.HostOut{Code: badRange})
			default:
				later.Now = now + by
				wantTick(t, h, by, impl.HostOut{Host: later})
			}
		}
	}
}

func TestTickOfHostsThatAreNotRight(t *testing.T) {
	for _, c := range wrongHosts() {
		t.Run(c.what, func(t *testing.T) {
			for _, by := range []int64{math.MinInt64, -1, 0, 1, lastTime + 1, math.MaxInt64} {
				wantTick(t, c.host, by, impl.HostOut{Code: badForm})
			}
		})
	}
}

func wantGive(t *testing.T, h impl.Host, house, role, till int64, want impl.HostOut) {
	t.Helper()
	wantHostOut(t, fmt.Sprintf("Give to %d tokens %d, %d, %d", len(h.Tokens), house, role, till), h, func(h impl.Host) impl.HostOut { return impl.Give(h, house, role, till) }, want)
}

func TestGive(t *testing.T) {
	for _, tokens := range rightTokens() {
		h := deskWith(func(h *impl.Host) { h.Tokens = tokens })
		for _, c := range [][3]int64{{1, 1, 0}, {2, 2, 19}, {mostHouses, mostRole, lastTime}} {
			given := impl.Issue(tokens, c[0], c[1], c[2])
			more := hostCopy(h)
			more.Tokens = given.Tokens
			if given.Code != ok {
				more = impl.Host{}
			}
			wantGive(t, h, c[0], c[1], c[2], impl.HostOut{Host: more, Code: given.Code})
		}
	}
	h := deskWith(func(h *impl.Host) { h.Tokens = tokensOf(3, 7) })
	more := deskWith(func(h *impl.Host) { h.Tokens = append(tokensOf(3, 7), impl.Token{No: 8, House: 4, Role: 2, Till: 30}) })
	wantGive(t, h, 4, 2, 30, impl.HostOut{Host: more})
}

func TestGiveRefuses(t *testing.T) {
	form, full := impl.HostOut{Code: badForm}, impl.HostOut{Code: badFull}
	for _, tokens := range [][]impl.Token{nil, tokensOf(1, 3), tokensUpTo(mostTokens, mostTokens), tokensOf(mostNo)} {
		h := deskWith(func(h *impl.Host) { h.Tokens = tokens })
		for _, n := range outOf("House") {
			wantGive(t, h, n, 1, 1, form)
		}
		for _, n := range outOf("Role") {
			wantGive(t, h, 1, n, 1, form)
		}
		for _, n := range outOf("Till") {
			wantGive(t, h, 1, 1, n, form)
		}
	}
	for _, tokens := range [][]impl.Token{tokensUpTo(mostTokens, mostTokens), tokensOf(mostNo), tokensOf(1, mostNo), tokensUpTo(mostTokens, mostNo)} {
		wantGive(t, deskWith(func(h *impl.Host) { h.Tokens = tokens }), 1, 1, 1, full)
	}
	for _, c := range wrongHosts() {
		t.Run(c.what, func(t *testing.T) {
			wantGive(t, c.host, 1, 1, 1, form)
			wantGive(t, c.host, 0, 0, -1, form)
		})
	}
}

// wantAll holds DoAll and RepliesOf against the same requests, done one by one in the way of the model.
func wantAll(t *testing.T, h impl.Host, l []impl.Req) {
	t.Helper()
	was, list := hostCopy(h), slices.Clone(l)
	want := hostCopy(h)
	var replies []impl.Reply
	for _, r := range l {
		replies = append(replies, modelled(&want, r))
	}
	if got := impl.DoAll(h, l); !sameHosts(got, want) || !impl.HostRight(got) {
		t.Errorf("DoAll of %d: got %.2000v, want %.2000v", len(l), got, want)
	}
	if got := impl.RepliesOf(h, l); !slices.Equal(got, replies) {
		t.Errorf("RepliesOf of %d: got %.2000v, want %.2000v", len(l), got, replies)
	}
	if !sameHosts(h, was) || !slices.Equal(l, list) {
		t.Errorf("of %d: the arguments are %.1000v, %.1000v behind it", len(l), h, l)
	}
}

func TestDoAllAndRepliesOf(t *testing.T) {
	h := newHost([]impl.Flight{{Name: "ab1", Rows: 1, Cols: 3}})
	h.Tokens = []impl.Token{{No: 1, House: 1, Role: 3, Till: 50}, {No: 2, House: 2, Role: 3, Till: 50}}
	l := reqsOf("make 1", "name 1 1.1 ann", "hold 1 1.1 ab1 1b", "make 2", "hold 2 2.1 ab1 1b", "read 2 1.1", "read 1 1.1", "offer 1 1.1 2", "take 2 1.1", "read 1 1.1", "read 2 1.1", "audit 1", "audit 2")
	want := []impl.Reply{{Text: "1.1"}, {Text: "ok"}, {Text: "ok"}, {Text: "2.1"}, {Code: badThere}, {Code: badNone}, {Text: "1.1 of 1 live +ann ab1:1b"}, {Text: "ok"}, {Text: "ok"},
		{Code: badNone}, {Text: "1.1 of 2 live +ann ab1:1b"}, {Text: "make 1.1,name 1.1,hold 1.1,offer 1.1"}, {Text: "make 2.1,take 1.1"}}
	if got := impl.RepliesOf(h, l); !slices.Equal(got, want) {
		t.Errorf("got %+v, want %+v", got, want)
	}
	behind := hostCopy(h)
	behind.Pnrs = pnrsOf("1.1 of 2 live +ann ab1:1b", "2.1 of 2 live")
	behind.Audits[0].Entries = []impl.Entry{{Kind: 1, Home: 1, Loc: 1}, {Kind: 2, Home: 1, Loc: 1}, {Kind: 3, Home: 1, Loc: 1}, {Kind: 6, Home: 1, Loc: 1}}
	behind.Audits[1].Entries = []impl.Entry{{Kind: 1, Home: 2, Loc: 1}, {Kind: 7, Home: 1, Loc: 1}}
	if got := impl.DoAll(h, l); !sameHosts(got, behind) {
		t.Errorf("got %+v, want %+v", got, behind)
	}
	wantAll(t, h, l)
	for n := range l {
		wantAll(t, h, l[:n])
		wantAll(t, h, l[n:])
	}
}

// TestRequestsThatAreNotRightAmongOthers turn nothing, and are told ErrForm.
func TestRequestsThatAreNotRightAmongOthers(t *testing.T) {
	h := deskHost()
	for _, c := range wrongReqs() {
		l := []impl.Req{c.req, baseReq(1), c.req, impl.ReqRead("make 1").Req, c.req, impl.ReqRead("name 1 1.6 x").Req, impl.ReqRead("read 1 1.6").Req, c.req}
		replies := []impl.Reply{{Code: badForm}, {Code: badDenied}, {Code: badForm}, {Text: "1.6"}, {Code: badForm}, {Text: "ok"}, {Text: "1.6 of 1 live +x"}, {Code: badForm}}
		if got := impl.RepliesOf(h, l); !slices.Equal(got, replies) {
			t.Errorf("%s: got %+v", c.what, got)
		}
		if got, want := impl.DoAll(h, l), impl.DoAll(h, reqsOf("make 1", "name 1 1.6 x")); !sameHosts(got, want) || len(got.Pnrs) != len(h.Pnrs)+1 {
			t.Errorf("%s: got %+v, want %+v", c.what, got, want)
		}
		if got := impl.DoAll(h, []impl.Req{c.req}); !sameHosts(got, h) {
			t.Errorf("%s alone: got %+v", c.what, got)
		}
	}
}

func TestRequestsOfAnyNumber(t *testing.T) {
	asks := reqsOf("name 1 1.1 x", "hold 1 1.1 ab1 1c", "free 1 1.1 ab1 1c", "map 3 ab1", "read 1 1.9", "audit 2", "", "make 4", "cancel 4 4.1")
	var l []impl.Req
	for len(l) <= 2*mostList {
		l = append(l, asks[len(l)%len(asks)])
	}
	wantAll(t, deskHost(), nil)
	wantAll(t, deskHost(), []impl.Req{})
	wantAll(t, deskHost(), l[:1])
	wantAll(t, deskHost(), l[:mostList-1])
	wantAll(t, deskHost(), l[:mostList])
	if got := impl.RepliesOf(deskHost(), nil); len(got) != 0 {
		t.Errorf("of no requests these are told: %+v", got)
	}
	for _, n := range []int{mostList + 1, 2 * mostList} {
		for _, many := range [][]impl.Req{l[:n], make([]impl.Req, n), slices.Repeat(reqsOf("map 1 ab1"), n)} {
			if host, replies := impl.DoAll(deskHost(), many), impl.RepliesOf(deskHost(), many); !reflect.DeepEqual(host, impl.Host{}) || len(replies) != 0 {
				t.Errorf("of %d requests: got %.300v, %.300v", n, host, replies)
			}
		}
	}
}

func TestDoAllOfHostsThatAreNotRight(t *testing.T) {
	for _, c := range wrongHosts() {
		for _, l := range [][]impl.Req{nil, reqsOf("make 1"), reqsOf("", "map 1 ab1", "audit 3"), make([]impl.Req, mostList+1)} {
			if host, replies := impl.DoAll(c.host, l), impl.RepliesOf(c.host, l); !reflect.DeepEqual(host, impl.Host{}) || len(replies) != 0 {
				t.Errorf("%s, %d requests: got %.300v, %.300v", c.what, len(l), host, replies)
			}
		}
	}
}

// modelled answers a request as chapter 8 says, told in another way than the program does, and changes h by it.
func modelled(h *impl.Host, r impl.Req) impl.Reply {
	if !isReq(r) {
		return impl.Reply{Code: badForm}
	}
	var token impl.Token
	for _, t := range h.Tokens {
		if t.No == r.Token && t.Till >= h.Now {
			token = t
		}
	}
	if !strings.Contains(mayKinds[token.Role], " "+kindWords[r.Kind]+" ") {
		return impl.Reply{Code: badDenied}
	}
	written := &h.Audits[max(token.House, 1)-1].Entries
	if r.Kind <= lastKind && len(*written) >= mostList {
		return impl.Reply{Code: badFull}
	}
	entry := impl.Entry{Kind: r.Kind, Home: r.Home, Loc: r.Loc}
	reply := impl.Reply{}
	switch r.Kind {
	case impl.RqMake:
		entry.Home, entry.Loc, reply = modelledMake(h, token.House)
	case impl.RqMap:
		reply = modelledMap(h, r.Flight)
	case impl.RqAudit:
		reply.Text = toldEntries(*written)
	default:
		reply = modelledOfOne(h, token.House, r)
	}
	if reply.Code == ok && r.Kind <= lastKind {
		*written = append(*written, entry)
	}
	return reply
}

func modelledMake(h *impl.Host, house int64) (int64, int64, impl.Reply) {
	loc := int64(1)
	for _, p := range h.Pnrs {
		if p.Home == house {
			loc = p.Loc + 1
		}
	}
	if ownedLive(h, house) >= quota || loc > mostLoc {
		return 0, 0, impl.Reply{Code: badFull}
	}
	h.Pnrs = append(h.Pnrs, impl.Pnr{Home: house, Loc: loc, Owner: house, Live: true})
	slices.SortStableFunc(h.Pnrs, func(a, b impl.Pnr) int { return int(a.Home - b.Home) })
	return house, loc, impl.Reply{Text: strconv.Itoa(int(house)) + "." + strconv.Itoa(int(loc))}
}

func modelledMap(h *impl.Host, flight string) impl.Reply {
	for _, f := range h.Flights {
		if f.Name == flight {
			marks := strings.Split(rep(".", int(f.Rows*f.Cols)), "")
			for x := range takenSeats(h) {
				if x.Flight == flight {
					marks[(x.Seat.Row-1)*f.Cols+x.Seat.Col] = "x"
				}
			}
			return impl.Reply{Text: strings.Join(marks, "")}
		}
	}
	return impl.Reply{Code: badNone}
}

// modelledOfOne answers a request that has a Home and a Loc.
func modelledOfOne(h *impl.Host, house int64, r impl.Req) impl.Reply {
	var p *impl.Pnr
	for i := range h.Pnrs {
		q := &h.Pnrs[i]
		mine := q.Owner == house && r.Kind != impl.RqTake || q.Offer == house && r.Kind == impl.RqTake
		if q.Home == r.Home && q.Loc == r.Loc && mine {
			p = q
		}
	}
	switch {
	case p == nil:
		return impl.Reply{Code: badNone}
	case r.Kind == impl.RqRead:
		return impl.Reply{Text: writtenPnr(*p)}
	case !p.Live:
		return impl.Reply{Code: badState}
	}
	if code := modelledChange(h, house, p, r); code != ok {
		return impl.Reply{Code: code}
	}
	return impl.Reply{Text: "ok"}
}

func modelledChange(h *impl.Host, house int64, p *impl.Pnr, r impl.Req) int64 {
	x := impl.Hold{Flight: r.Flight, Seat: r.Seat}
	switch r.Kind {
	case impl.RqName:
		if len(p.Names) >= mostNames {
			return badFull
		}
		p.Names = append(p.Names, r.Name)
	case impl.RqHold:
		there := slices.ContainsFunc(h.Flights, func(f impl.Flight) bool { return f.Name == r.Flight && r.Seat.Row <= f.Rows && r.Seat.Col < f.Cols })
		switch {
		case !there:
			return badRange
		case takenSeats(h)[x]:
			return badThere
		case len(p.Holds) >= mostHolds:
			return badFull
		}
		p.Holds = append(p.Holds, x)
		slices.SortFunc(p.Holds, holdOrder)
	case impl.RqFree:
		left := slices.DeleteFunc(slices.Clone(p.Holds), func(y impl.Hold) bool { return y == x })
		if len(left) == len(p.Holds) {
			return badRange
		}
		p.Holds = left
	case impl.RqCancel:
		*p = impl.Pnr{Home: p.Home, Loc: p.Loc, Owner: p.Owner, Names: p.Names}
	case impl.RqOffer:
		if r.To == house {
			return badRange
		}
		p.Offer = r.To
	case impl.RqTake:
		if ownedLive(h, house) >= quota {
			return badFull
		}
		p.Owner, p.Offer = house, 0
	}
	return ok
}

// ownedLive counts the live bookings that a house owns.
func ownedLive(h *impl.Host, house int64) int {
	n := 0
	for _, p := range h.Pnrs {
		if p.Live && p.Owner == house {
			n++
		}
	}
	return n
}

// takenSeats are all seats that are held.
func takenSeats(h *impl.Host) map[impl.Hold]bool {
	taken := map[impl.Hold]bool{}
	for _, p := range h.Pnrs {
		for _, x := range p.Holds {
			taken[x] = true
		}
	}
	return taken
}

// someReq is a request made by chance, of few flights, seats and bookings, so that many are done, and many stand in each other's way.
func someReq(r *rand.Rand, h impl.Host) impl.Req {
	kind := []int64{1, 2, 3, 3, 3, 4, 5, 6, 6, 7, 7, 7, 8, 9, 10}[r.Intn(15)]
	q := impl.Req{Kind: kind, Token: r.Int63n(12) + 1, Home: r.Int63n(mostHouses) + 1, Loc: r.Int63n(4) + 1, Name: []string{"ann", "bob", "0"}[r.Intn(3)],
		Flight: []string{"a", "a1", "b", "zz9", "no"}[r.Intn(5)], Seat: impl.Seat{Row: r.Int63n(4) + 1, Col: r.Int63n(4)}, To: r.Int63n(mostHouses) + 1}
	if len(h.Pnrs) > 0 && r.Intn(4) > 0 {
		p := h.Pnrs[r.Intn(len(h.Pnrs))]
		q.Home, q.Loc, q.Token = p.Home, p.Loc, p.Owner
		if kind == impl.RqTake && p.Offer != 0 {
			q.Token = p.Offer
		}
		if kind == impl.RqFree && len(p.Holds) > 0 {
			x := p.Holds[r.Intn(len(p.Holds))]
			q.Flight, q.Seat = x.Flight, x.Seat
		}
	}
	if r.Intn(40) == 0 {
		return impl.Req{Kind: kind, Token: 1000}
	}
	return onlyWhatItHas(q)
}

// offeredSome offers some live bookings of a host by chance.
func offeredSome(r *rand.Rand, h *impl.Host) {
	for i := range h.Pnrs {
		p := &h.Pnrs[i]
		if to := r.Int63n(mostHouses) + 1; p.Live && to != p.Owner && r.Intn(2) == 0 {
			p.Offer = to
		}
	}
}

// TestARightHostStaysRight is promise 8: each request by chance is held against the model, and against the promise itself.
func TestARightHostStaysRight(t *testing.T) {
	r := rand.New(rand.NewSource(8))
	codes, kinds := map[int64]int{}, map[int64]int{}
	for range 250 {
		h := someHost(r)
		offeredSome(r, &h)
		h.Tokens, h.Now = deskTokens(), 20
		for house := range h.Audits {
			if r.Intn(5) == 0 {
				h.Audits[house].Entries = entriesUpTo(mostList - r.Intn(3))
			}
		}
		var l []impl.Req
		first := hostCopy(h)
		for range 40 {
			q := someReq(r, h)
			l = append(l, q)
			if !isReq(q) {
				wantDo(t, h, q, impl.DoOut{Code: badForm})
				continue
			}
			model := hostCopy(h)
			reply := modelled(&model, q)
			wantDo(t, h, q, impl.DoOut{Host: model, Reply: reply})
			wantKept(t, h, q)
			h = model
			codes[reply.Code]++
			if reply.Code == ok {
				kinds[q.Kind]++
			}
		}
		wantAll(t, first, l)
		if t.Failed() {
			t.FailNow()
		}
	}
	for _, code := range []int64{ok, badNone, badThere, badRange, badFull, badState, badDenied} {
		if codes[code] < 20 {
			t.Errorf("the code %d was told %d times: this tries too little", code, codes[code])
		}
	}
	for kind := int64(1); kind <= mostKind; kind++ {
		if kinds[kind] < 20 {
			t.Errorf("%s was done %d times: this tries too little", kindWords[kind], kinds[kind])
		}
	}
}

// wantKept looks at what promise 8 says of one request, whatever the model says.
func wantKept(t *testing.T, h impl.Host, q impl.Req) {
	t.Helper()
	got := impl.Do(h, q)
	text := impl.ReqText(q)
	if got.Reply.Code != ok && (!sameHosts(got.Host, h) || got.Reply.Text != "") {
		t.Errorf("%s, refused, tells %q and changes the host", text, got.Reply.Text)
	}
	if !impl.Changes(q.Kind) && !sameHosts(got.Host, h) {
		t.Errorf("%s changes the host", text)
	}
	house := impl.Shows(h.Tokens, q.Token, h.Now).House
	for i, a := range h.Audits {
		more := 0
		if a.House == house && got.Reply.Code == ok && impl.Changes(q.Kind) {
			more = 1
		}
		if now := got.Host.Audits[i].Entries; len(now) != len(a.Entries)+more || !slices.Equal(now[:len(a.Entries)], a.Entries) {
			t.Errorf("%s: %d entries of house %d, there were %d", text, len(now), a.House, len(a.Entries))
		}
	}
	for _, p := range h.Pnrs {
		now := impl.FindPnr(got.Host, p.Home, p.Loc)
		taken := q.Kind == impl.RqTake && q.Home == p.Home && q.Loc == p.Loc && p.Offer == house && now.Owner == house
		if now.Owner != p.Owner && !taken {
			t.Errorf("%s: %d.%d is of %d, was of %d, offered to %d", text, p.Home, p.Loc, now.Owner, p.Owner, p.Offer)
		}
	}
}

// wantNothingShared writes over all that a told host has, and behind its ends, and looks at what was handed in.
func wantNothingShared(t *testing.T, what string, h impl.Host, told impl.Host) {
	t.Helper()
	was := fmt.Sprintf("%+v", withSpare(h))
	own := ownTexts(told)
	if !impl.HostRight(told) {
		t.Errorf("%s: no right host is told", what)
	}
	for _, text := range ownTexts(h) {
		if slices.ContainsFunc(own, func(told string) bool { return sharesMemory(told, text) }) {
			t.Errorf("%s: %q is told in memory of the argument", what, text)
		}
	}
	told = withSpare(told)
	clear(told.Flights)
	for i := range told.Pnrs {
		clear(told.Pnrs[i].Names)
		clear(told.Pnrs[i].Holds)
	}
	clear(told.Pnrs)
	clear(told.Tokens)
	for i := range told.Audits {
		clear(told.Audits[i].Entries)
	}
	clear(told.Audits)
	if now := fmt.Sprintf("%+v", withSpare(h)); now != was {
		t.Errorf("%s: the argument is %.2000s behind it, was %.2000s", what, now, was)
	}
}

// withSpare gives a host whose lists reach to the ends of their memory.
func withSpare(h impl.Host) impl.Host {
	h.Flights, h.Pnrs, h.Tokens, h.Audits = h.Flights[:cap(h.Flights)], slices.Clone(h.Pnrs[:cap(h.Pnrs)]), h.Tokens[:cap(h.Tokens)], slices.Clone(h.Audits[:cap(h.Audits)])
	for i, p := range h.Pnrs {
		h.Pnrs[i].Names, h.Pnrs[i].Holds = p.Names[:cap(p.Names)], p.Holds[:cap(p.Holds)]
	}
	for i, a := range h.Audits {
		h.Audits[i].Entries = a.Entries[:cap(a.Entries)]
	}
	return h
}

// ownTexts are all texts of a host, but for those of one byte, which share the memory that Go keeps for these.
func ownTexts(h impl.Host) []string {
	var l []string
	for _, f := range h.Flights {
		l = append(l, f.Name)
	}
	for _, p := range h.Pnrs {
		l = append(l, p.Names...)
		for _, x := range p.Holds {
			l = append(l, x.Flight)
		}
	}
	return slices.DeleteFunc(l, func(text string) bool { return len(text) < 2 })
}

// roomyHost is deskHost with room behind the end of each of its lists, and texts in memory of their own.
func roomyHost() impl.Host {
	h := deskHost()
	h.Flights, h.Tokens = slices.Grow(h.Flights, 3), slices.Grow(h.Tokens, 3)
	for i := range h.Flights {
		h.Flights[i].Name = strings.Clone(h.Flights[i].Name)
	}
	h.Pnrs, h.Audits = slices.Grow(h.Pnrs, 3), slices.Grow(h.Audits, 3)
	for i, p := range h.Pnrs {
		h.Pnrs[i].Names, h.Pnrs[i].Holds = slices.Grow(p.Names, 3), slices.Grow(p.Holds, 3)
	}
	for i, a := range h.Audits {
		h.Audits[i].Entries = slices.Grow(a.Entries, 3)
	}
	return h
}

func TestHostsThatAreToldAreNewMemory(t *testing.T) {
	for _, text := range []string{"make 1", "name 1 1.1 bob", "hold 1 1.1 ab1 1c", "free 1 1.1 ab1 1a", "cancel 1 1.1", "offer 1 1.1 3", "take 1 2.2", "read 1 1.1", "map 1 ab1", "audit 1",
		"cancel 1 1.3", "make 9", "hold 1 1.1 zz 1a"} {
		h := roomyHost()
		wantNothingShared(t, "Do of "+text, h, impl.Do(h, impl.ReqRead(text).Req).Host)
		wantNothingShared(t, "DoAll of "+text, h, impl.DoAll(h, reqsOf(text)))
		impl.RepliesOf(h, reqsOf(text, text))
		if !sameHosts(h, deskHost()) {
			t.Errorf("RepliesOf of %s: the argument is %+v behind it", text, h)
		}
	}
	h := roomyHost()
	wantNothingShared(t, "DoAll of none", h, impl.DoAll(h, nil))
	wantNothingShared(t, "Tick by 0", h, impl.Tick(h, 0).Host)
	wantNothingShared(t, "Tick by 5", h, impl.Tick(h, 5).Host)
	h.Tokens = h.Tokens[:3] // behind No 999 there is none to give
	wantNothingShared(t, "Give", h, impl.Give(h, 1, 1, 1).Host)
}

// TestTextsOfRequestsAreNotKept: what a request brings stands in the host in memory of the host's own.
func TestTextsOfRequestsAreNotKept(t *testing.T) {
	name, flight := rep("n", 8), strings.Clone("cd2")
	l := []impl.Req{{Kind: impl.RqName, Token: 1, Home: 1, Loc: 1, Name: name}, {Kind: impl.RqHold, Token: 1, Home: 1, Loc: 1, Flight: flight, Seat: impl.Seat{Row: 9}}}
	for _, h := range []impl.Host{impl.DoAll(deskHost(), l), impl.Do(deskHost(), l[0]).Host, impl.Do(deskHost(), l[1]).Host} {
		for _, text := range ownTexts(h) {
			if sharesMemory(text, name) || sharesMemory(text, flight) {
				t.Errorf("%q is kept in memory of the argument", text)
			}
		}
	}
}

// TestListsOfOneHostShareNoMemory adds to each list of a host that was told, and looks at the others.
func TestListsOfOneHostShareNoMemory(t *testing.T) {
	want := impl.DoAll(deskHost(), reqsOf("make 1", "make 2", "name 1 1.6 x", "hold 1 1.6 cd2 5a"))
	h := impl.DoAll(deskHost(), reqsOf("make 1", "make 2", "name 1 1.6 x", "hold 1 1.6 cd2 5a"))
	for i := range h.Pnrs {
		_, _ = append(h.Pnrs[i].Names, "more"), append(h.Pnrs[i].Holds, hold("more", 9, 9))
	}
	for i := range h.Audits {
		_ = append(h.Audits[i].Entries, impl.Entry{Kind: 7, Home: 7, Loc: 7})
	}
	if !sameHosts(h, want) {
		t.Errorf("got %+v, want %+v", h, want)
	}
}

// TestNothingIsKeptFromCallToCall asks the same of the same host, after other calls too.
func TestNothingIsKeptFromCallToCall(t *testing.T) {
	texts := []string{"make 1", "name 1 1.1 x", "make 9", "hold 1 1.1 ab1 1c", "cancel 1 1.3", "take 1 2.2", "read 1 1.1"}
	var first []impl.DoOut
	for _, text := range texts {
		first = append(first, impl.Do(deskHost(), impl.ReqRead(text).Req))
	}
	for range 3 {
		slices.Reverse(texts)
		slices.Reverse(first)
		for i, text := range texts {
			wantDo(t, deskHost(), impl.ReqRead(text).Req, first[i])
		}
	}
}
