package tests

import (
	"math"
	"math/rand"
	"regexp"
	"slices"
	"strconv"
	"strings"
	"testing"

	"loop.example/g00755/impl"
)

// reqHas says of each kind what it has besides its token, as the table of chapter 7 names it.
var reqHas = map[int64]string{
	1: "", 2: "pnr name", 3: "pnr flight seat", 4: "pnr flight seat", 5: "pnr", 6: "pnr to", 7: "pnr", 8: "pnr", 9: "flight", 10: "",
}

// baseReq is a right request of a kind, with something in each field that the kind has.
func baseReq(kind int64) impl.Req {
	all := impl.Req{Kind: kind, Token: 37, Home: 2, Loc: 5, Name: "ann", Flight: "ab1", Seat: impl.Seat{Row: 12, Col: 2}, To: 3}
	return onlyWhatItHas(all)
}

// onlyWhatItHas sets all fields that the kind has not to their zero values.
func onlyWhatItHas(r impl.Req) impl.Req {
	has := reqHas[r.Kind]
	if !strings.Contains(has, "pnr") {
		r.Home, r.Loc = 0, 0
	}
	if !strings.Contains(has, "name") {
		r.Name = ""
	}
	if !strings.Contains(has, "flight") {
		r.Flight = ""
	}
	if !strings.Contains(has, "seat") {
		r.Seat = impl.Seat{}
	}
	if !strings.Contains(has, "to") {
		r.To = 0
	}
	return r
}

// writtenReq is ReqText of a right request told in another way.
func writtenReq(r impl.Req) string {
	words := []string{kindWords[r.Kind], strconv.Itoa(int(r.Token))}
	for _, what := range strings.Fields(reqHas[r.Kind]) {
		words = append(words, map[string]string{
			"pnr":    strconv.Itoa(int(r.Home)) + "." + strconv.Itoa(int(r.Loc)),
			"name":   r.Name,
			"flight": r.Flight,
			"seat":   writtenSeat(r.Seat),
			"to":     strconv.Itoa(int(r.To)),
		}[what])
	}
	return strings.Join(words, " ")
}

var wordForm = regexp.MustCompile(`\A[a-z0-9]{1,8}\z`)

// isReq is ReqRight told in another way.
func isReq(r impl.Req) bool {
	has, is := reqHas[r.Kind]
	if !is || r.Token < 1 || r.Token > mostNo || r != onlyWhatItHas(r) {
		return false
	}
	if strings.Contains(has, "pnr") && (r.Home < 1 || r.Home > mostHouses || r.Loc < 1 || r.Loc > mostLoc) {
		return false
	}
	if strings.Contains(has, "seat") && (r.Seat.Row < 1 || r.Seat.Row > mostRows || r.Seat.Col < 0 || r.Seat.Col >= mostCols) {
		return false
	}
	if strings.Contains(has, "to") && (r.To < 1 || r.To > mostHouses) {
		return false
	}
	return (!strings.Contains(has, "name") || wordForm.MatchString(r.Name)) && (!strings.Contains(has, "flight") || wordForm.MatchString(r.Flight))
}

// reqForm is what the texts of right requests look like: with T for a token, P for a booking, W for a word and S for a seat.
var reqForm = regexp.MustCompile(strings.NewReplacer(" T", " [1-9][0-9]{0,2}", " P", ` [1-4]\.[1-9]`, " W", " [a-z0-9]{1,8}", " S", " (?:[1-9]|1[0-9]|20)[a-f]").Replace(
	`\A(?:(?:make|audit) T|(?:cancel|take|read) T P|name T P W|(?:hold|free) T P W S|offer T P [1-4]|map T W)\z`))

// someReqs are right requests of each kind, with each number that there is.
func someReqs() []impl.Req {
	words := []string{"ann", "0", "z", rep("z", 8), rep("9", 8), "a1b2", "make", "ok"}
	var l []impl.Req
	for kind := int64(1); kind <= mostKind; kind++ {
		for _, token := range []int64{1, 2, 9, 10, 99, 100, 998, mostNo} {
			l = append(l, impl.Req{Kind: kind, Token: token, Home: token%mostHouses + 1, Loc: token%mostLoc + 1, Name: "ann", Flight: "ab1", Seat: impl.Seat{Row: 1}, To: 4})
		}
		for home := int64(1); home <= mostHouses; home++ {
			for loc := int64(1); loc <= mostLoc; loc++ {
				for to := int64(1); to <= mostHouses; to++ {
					word := words[len(l)%len(words)]
					l = append(l, impl.Req{Kind: kind, Token: 5, Home: home, Loc: loc, Name: word, Flight: word, Seat: impl.Seat{Row: home * 5, Col: to}, To: to})
				}
			}
		}
		for _, seat := range rightSeats() {
			l = append(l, impl.Req{Kind: kind, Token: 6, Home: 1, Loc: 1, Name: "a", Flight: "b", Seat: seat, To: 1})
		}
	}
	for i := range l {
		l[i] = onlyWhatItHas(l[i])
	}
	return l
}

type wrongReq struct {
	what string
	req  impl.Req
}

// noWords are texts that are no word, of which some are near to one.
func noWords() []string {
	return []string{"", " ", "A", "Ann", "anN", "a b", " a", "a ", "a.", "a-b", "a_b", "+a", "a:1a", "a\n", "\n", "\x00", "aé", "\xff", "a\xff", "\xef\xbf\xbd",
		rep("a", 9), rep("0", 9), rep("a", 16), rep("a", limit), rep("a", limit+1)}
}

// wrongReqs have each a fault.
func wrongReqs() []wrongReq {
	l := []wrongReq{{"the zero one", impl.Req{}}, {"no kind", impl.Req{Token: 1}}}
	far := []int64{math.MinInt64, -1, 0, 1<<32 + 1, math.MaxInt64}
	for _, kind := range append(far, mostKind+1, mostKind+2) {
		name := "kind " + strconv.FormatInt(kind, 10)
		l = append(l, wrongReq{name, impl.Req{Kind: kind, Token: 1}},
			wrongReq{name + " and a booking", impl.Req{Kind: kind, Token: 1, Home: 1, Loc: 1}},
			wrongReq{name + " and a flight", impl.Req{Kind: kind, Token: 1, Flight: "ab1"}})
	}
	for kind := int64(1); kind <= mostKind; kind++ {
		l = append(l, wrongReq{kindWords[kind] + " and nothing else", impl.Req{Kind: kind}})
		for _, n := range append(far, mostNo+1) {
			r := baseReq(kind)
			r.Token = n
			l = append(l, wrongReq{kindWords[kind] + ", Token " + strconv.FormatInt(n, 10), r})
		}
		l = append(l, wrongParts(kind)...)
	}
	return l
}

// wrongParts are requests of a kind of which one field is out of what it may be, or is set though the kind has it not.
func wrongParts(kind int64) []wrongReq {
	var l []wrongReq
	add := func(what string, change func(r *impl.Req)) {
		r := baseReq(kind)
		change(&r)
		l = append(l, wrongReq{kindWords[kind] + ", " + what, r})
	}
	has := reqHas[kind]
	numbers := func(part, what string, most int64, set func(r *impl.Req, n int64)) {
		wrong := []int64{math.MinInt64, -1, 0, most + 1, 1<<32 + 1, math.MaxInt64}
		if !strings.Contains(has, part) {
			wrong = []int64{math.MinInt64, -1, 1, 2, most, most + 1, math.MaxInt64}
		}
		for _, n := range wrong {
			add(what+" "+strconv.FormatInt(n, 10), func(r *impl.Req) { set(r, n) })
		}
	}
	texts := func(part, what string, set func(r *impl.Req, text string)) {
		wrong := noWords()
		if !strings.Contains(has, part) {
			wrong = append(wrong[1:], "a", "ann", "ab1")
		}
		for _, text := range wrong {
			add(what+" "+shown(text), func(r *impl.Req) { set(r, text) })
		}
	}
	numbers("pnr", "Home", mostHouses, func(r *impl.Req, n int64) { r.Home = n })
	numbers("pnr", "Loc", mostLoc, func(r *impl.Req, n int64) { r.Loc = n })
	numbers("to", "To", mostHouses, func(r *impl.Req, n int64) { r.To = n })
	texts("name", "Name", func(r *impl.Req, text string) { r.Name = text })
	texts("flight", "Flight", func(r *impl.Req, text string) { r.Flight = text })
	seats := wrongSeats()
	if !strings.Contains(has, "seat") {
		seats = append(rightSeats(), impl.Seat{Col: 1}, impl.Seat{Row: -1}, impl.Seat{Col: -1})
	}
	for _, seat := range seats {
		add("Seat "+strconv.FormatInt(seat.Row, 10)+", "+strconv.FormatInt(seat.Col, 10), func(r *impl.Req) { r.Seat = seat })
	}
	return l
}

func wantReqRead(t *testing.T, text string, want impl.ReqOut) {
	t.Helper()
	if got := impl.ReqRead(text); got != want {
		t.Errorf("ReqRead(%.80q): got %+v, want %+v", text, got, want)
	}
}

func wantNoReq(t *testing.T, texts []namedText) {
	t.Helper()
	for _, c := range texts {
		t.Run(c.what, func(t *testing.T) {
			wantReqRead(t, c.text, impl.ReqOut{Code: badSyntax})
		})
	}
}

// TestEachKindToItsTextAndBack writes each kind out by hand.
func TestEachKindToItsTextAndBack(t *testing.T) {
	seat := impl.Seat{Row: 12, Col: 2}
	for text, r := range map[string]impl.Req{
		"make 1":                    {Kind: 1, Token: 1},
		"name 37 2.5 ann":           {Kind: 2, Token: 37, Home: 2, Loc: 5, Name: "ann"},
		"hold 3 1.2 ab1 12c":        {Kind: 3, Token: 3, Home: 1, Loc: 2, Flight: "ab1", Seat: seat},
		"free 3 1.2 ab1 12c":        {Kind: 4, Token: 3, Home: 1, Loc: 2, Flight: "ab1", Seat: seat},
		"cancel 999 4.9":            {Kind: 5, Token: 999, Home: 4, Loc: 9},
		"offer 10 1.1 4":            {Kind: 6, Token: 10, Home: 1, Loc: 1, To: 4},
		"take 2 1.1":                {Kind: 7, Token: 2, Home: 1, Loc: 1},
		"read 100 3.3":              {Kind: 8, Token: 100, Home: 3, Loc: 3},
		"map 5 zz9":                 {Kind: 9, Token: 5, Flight: "zz9"},
		"audit 7":                   {Kind: 10, Token: 7},
		"name 1 1.1 name":           {Kind: 2, Token: 1, Home: 1, Loc: 1, Name: "name"},
		"hold 999 4.9 abcdefgh 20f": {Kind: 3, Token: 999, Home: 4, Loc: 9, Flight: "abcdefgh", Seat: impl.Seat{Row: 20, Col: 5}},
		"free 1 1.1 0 1a":           {Kind: 4, Token: 1, Home: 1, Loc: 1, Flight: "0", Seat: impl.Seat{Row: 1}},
		"map 1 1":                   {Kind: 9, Token: 1, Flight: "1"},
	} {
		if !impl.ReqRight(r) {
			t.Errorf("%+v is right", r)
		}
		if got := impl.ReqText(r); got != text {
			t.Errorf("ReqText(%+v): got %q, want %q", r, got, text)
		}
		wantReqRead(t, text, impl.ReqOut{Req: r})
	}
}

// TestRequestsComeBackFromTheirTexts is promise 7.
func TestRequestsComeBackFromTheirTexts(t *testing.T) {
	for _, r := range someReqs() {
		if !impl.ReqRight(r) {
			t.Errorf("%+v is right", r)
		}
		text := impl.ReqText(r)
		if want := writtenReq(r); text != want {
			t.Errorf("ReqText(%+v): got %q, want %q", r, text, want)
		}
		wantReqRead(t, text, impl.ReqOut{Req: r})
	}
}

func TestRequestsThatAreNotRight(t *testing.T) {
	for _, c := range wrongReqs() {
		if impl.ReqRight(c.req) {
			t.Errorf("%s: this is not right", c.what)
		}
		if text := impl.ReqText(c.req); text != "" {
			t.Errorf("%s: ReqText gives %.80q", c.what, text)
		}
	}
}

// TestNumbersOfRequestsAtTheirEdges holds each number that a kind has against the least and the most that it may be.
func TestNumbersOfRequestsAtTheirEdges(t *testing.T) {
	for kind := int64(1); kind <= mostKind; kind++ {
		for _, c := range []struct {
			part string
			most int64
			set  func(r *impl.Req, n int64)
		}{
			{"", mostNo, func(r *impl.Req, n int64) { r.Token = n }},
			{"pnr", mostHouses, func(r *impl.Req, n int64) { r.Home = n }},
			{"pnr", mostLoc, func(r *impl.Req, n int64) { r.Loc = n }},
			{"to", mostHouses, func(r *impl.Req, n int64) { r.To = n }},
		} {
			if !strings.Contains(reqHas[kind], c.part) {
				continue
			}
			for _, n := range []int64{0, 1, 2, c.most - 1, c.most, c.most + 1} {
				r := baseReq(kind)
				c.set(&r, n)
				if got, want := impl.ReqRight(r), n >= 1 && n <= c.most; got != want {
					t.Errorf("%+v: got %v", r, got)
				}
			}
		}
	}
}

// TestWordsOfRequestsAtTheirEdges tries words of each length, and of each byte there is.
func TestWordsOfRequestsAtTheirEdges(t *testing.T) {
	try := func(word string, want bool) {
		name, hold, of := baseReq(impl.RqName), baseReq(impl.RqHold), baseReq(impl.RqMap)
		name.Name, hold.Flight, of.Flight = word, word, word
		for _, r := range []impl.Req{name, hold, of} {
			if got := impl.ReqRight(r); got != want {
				t.Errorf("%s of %q: got %v", kindWords[r.Kind], word, got)
			}
		}
	}
	for n := 0; n <= 10; n++ {
		try(rep("a", n), n >= 1 && n <= 8)
	}
	for b := 0; b < 256; b++ {
		is := b >= 'a' && b <= 'z' || b >= '0' && b <= '9'
		for _, word := range []string{string([]byte{byte(b)}), "a" + string([]byte{byte(b)}), string([]byte{byte(b)}) + "9"} {
			try(word, is)
		}
	}
}

func TestReqReadRefusesOtherKinds(t *testing.T) {
	wantNoReq(t, []namedText{
		{"the empty text", ""},
		{"no kind", "1"},
		{"no kind but a booking", "1 1.1"},
		{"a blank for a kind", " 1"},
		{"another word", "book 1"},
		{"another word and a booking", "give 1 1.1"},
		{"a token's number for a kind", "8 1 1.1"},
		{"a kind that only begins like one", "mak 1"},
		{"a kind of which one is the beginning", "maker 1"},
		{"a beginning of one with a booking", "tak 1 1.1"},
		{"the first letter of one", "m 1"},
		{"one with a letter ahead", "amake 1"},
		{"one in upper case", "MAKE 1"},
		{"one with an upper letter", "Make 1"},
		{"two of them", "make make 1"},
		{"one with another one's fields", "make 1 1.1"},
		{"take without its booking", "take 1"},
		{"take with a house", "take 1 1.1 2"},
		{"audit with a flight", "audit 1 ab1"},
		{"audit with a booking", "audit 1 1.1"},
		{"map with a booking", "map 1 1.1"},
		{"map with a booking ahead", "map 1 1.1 ab1"},
		{"map without a flight", "map 1"},
		{"name without a name", "name 1 1.1"},
		{"name without a booking", "name 1 ann"},
		{"name with two names", "name 1 1.1 ann bob"},
		{"hold without a seat", "hold 1 1.1 ab1"},
		{"hold without a flight", "hold 1 1.1 1a"},
		{"hold without a booking", "hold 1 ab1 1a"},
		{"hold with two seats", "hold 1 1.1 ab1 1a 1b"},
		{"hold with the seat ahead of the flight", "hold 1 1.1 1a ab1x"},
		{"offer without a house", "offer 1 1.1"},
		{"offer with a word for a house", "offer 1 1.1 to"},
		{"offer with a word ahead of the house", "offer 1 1.1 to 2"},
		{"cancel with something behind", "cancel 1 1.1 x"},
		{"read with something behind", "read 1 1.1 1.1"},
		{"a kind alone", "make"},
		{"another kind alone", "hold"},
		{"a text of six words", "hold 1 1.1 ab1 1a x"},
	})
}

func TestReqReadRefusesBlanksTooManyOrTooFew(t *testing.T) {
	texts := []namedText{{"a blank", " "}, {"blanks", "     "}, {"as many blanks as fit in", rep(" ", limit)}}
	for kind := int64(1); kind <= mostKind; kind++ {
		text := writtenReq(baseReq(kind))
		name := kindWords[kind]
		texts = append(texts, namedText{name + ", a blank ahead", " " + text}, namedText{name + ", a blank behind", text + " "},
			namedText{name + ", blanks up to the limit behind", text + rep(" ", limit-len(text))},
			namedText{name + ", a line feed behind", text + "\n"}, namedText{name + ", a line feed ahead", "\n" + text},
			namedText{name + ", a nought byte behind", text + "\x00"}, namedText{name + ", itself behind it", text + " " + text},
			namedText{name + ", itself behind it, in a line of its own", text + "\n" + text})
		for at := range text {
			if text[at] != ' ' {
				continue
			}
			for what, between := range map[string]string{"two blanks": "  ", "no blank": "", "a tab": "\t", "a line feed": "\n", "a point": ".", "a comma": ",",
				"a blank of two bytes": "\u00a0", "a blank of three bytes": "\u2003", "a line feed and a blank": "\n "} {
				texts = append(texts, namedText{name + ", " + what + " at " + strconv.Itoa(at), text[:at] + between + text[at+1:]})
			}
		}
	}
	wantNoReq(t, texts)
}

func TestReqReadRefusesOtherNumbers(t *testing.T) {
	texts := []namedText{
		{"a house of 0", "read 1 0.1"}, {"a house of one above the most", "read 1 5.1"}, {"a house with a needless nought", "read 1 01.1"},
		{"a Loc of 0", "read 1 1.0"}, {"a Loc of one above the most", "read 1 1.10"}, {"a Loc with a needless nought", "read 1 1.01"},
		{"a house with a sign", "read 1 +1.1"}, {"a house below 0", "read 1 -1.1"}, {"a Loc with a sign", "read 1 1.+1"}, {"a Loc below 0", "read 1 1.-1"},
		{"no house", "read 1 .1"}, {"no Loc", "read 1 1."}, {"a point alone", "read 1 ."}, {"no point", "read 1 11"}, {"a house alone", "read 1 1"},
		{"two points", "read 1 1..1"}, {"a third number", "read 1 1.1.1"}, {"a point ahead", "read 1 .1.1"}, {"a point behind", "read 1 1.1."},
		{"a comma for the point", "read 1 1,1"}, {"a blank for the point", "read 1 1 1"}, {"a letter for a house", "read 1 a.1"}, {"a letter for a Loc", "read 1 1.a"},
		{"a Loc of more digits than fit", "read 1 1." + rep("9", 30)}, {"a house of 2^64 and 1", "read 1 18446744073709551617.1"},
		{"an offer to 0", "offer 1 1.1 0"}, {"an offer to one above the most", "offer 1 1.1 5"}, {"an offer to a house with a needless nought", "offer 1 1.1 02"},
		{"an offer to a house with a sign", "offer 1 1.1 +2"}, {"an offer to a house below 0", "offer 1 1.1 -2"}, {"an offer to a booking", "offer 1 1.1 2.1"},
		{"a row of 0", "hold 1 1.1 ab1 0b"}, {"a row of one above the most", "hold 1 1.1 ab1 21a"}, {"a row with a needless nought", "free 1 1.1 ab1 01a"},
		{"a column behind the last one", "hold 1 1.1 ab1 1g"}, {"no column", "hold 1 1.1 ab1 1"}, {"no row", "hold 1 1.1 ab1 a"}, {"a column in upper case", "free 1 1.1 ab1 1A"},
		{"a row with a sign", "hold 1 1.1 ab1 +1a"}, {"two columns", "hold 1 1.1 ab1 1ab"},
	}
	for kind := int64(1); kind <= mostKind; kind++ {
		_, behind, _ := strings.Cut(writtenReq(baseReq(kind)), " 37")
		for _, token := range []string{"", "0", "00", "01", "037", "0999", "1000", "1001", "10000", "+1", "-1", "-0", "1.0", "1a", "a", "0x1", "1e2", "1_0", "١",
			"9223372036854775807", "9223372036854775808", "18446744073709551617", "4294967297", rep("9", 100), rep("0", 40) + "1"} {
			texts = append(texts, namedText{kindWords[kind] + ", a token of " + shown(token), kindWords[kind] + " " + token + behind})
		}
	}
	wantNoReq(t, texts)
}

func TestReqReadRefusesOtherWords(t *testing.T) {
	var texts []namedText
	for _, word := range noWords() {
		if len(word) >= limit-20 { // these are refused for their size, or are in TestReqReadOfLongTexts
			continue
		}
		texts = append(texts, namedText{"a name of " + shown(word), "name 1 1.1 " + word}, namedText{"a flight of " + shown(word), "map 1 " + word},
			namedText{"a flight with a seat, of " + shown(word), "hold 1 1.1 " + word + " 1a"}, namedText{"a flight with a seat to free, of " + shown(word), "free 1 1.1 " + word + " 1a"})
	}
	for kind := int64(1); kind <= mostKind; kind++ {
		text := writtenReq(baseReq(kind))
		for _, bytes := range []string{"\xff", "\x80", "\xc3", "\xe2\x82", "\xed\xa0\x80", "\xf8\x88\x80\x80\x80", "\xef\xbf\xbd", "é", "\u200b"} {
			for at := range len(text) + 1 {
				texts = append(texts, namedText{kindWords[kind] + ", with " + shown(bytes) + " at " + strconv.Itoa(at), text[:at] + bytes + text[at:]})
				if at < len(text) {
					texts = append(texts, namedText{kindWords[kind] + ", with " + shown(bytes) + " for the byte at " + strconv.Itoa(at), text[:at] + bytes + text[at+1:]})
				}
			}
		}
	}
	wantNoReq(t, texts)
}

func TestReqReadOfLongTexts(t *testing.T) {
	for _, begin := range []string{"", "make 1", "make ", "name 1 1.1 a", "map 1 a", "read 1 1.1", "hold 1 1.1 a 1a", "audit 1 ", " "} {
		for _, filled := range []string{"a", " ", "0", "1", ".", "\n", "\xff", "a ", "make 1 "} {
			text := begin + rep(filled, limit+1)
			wantReqRead(t, text[:limit], impl.ReqOut{Code: badSyntax})
			wantReqRead(t, text[:limit+1], impl.ReqOut{Code: badSize})
			wantReqRead(t, text[:limit-1], impl.ReqOut{Code: badSyntax})
		}
	}
	wantReqRead(t, rep("make 1 ", 10*limit), impl.ReqOut{Code: badSize})
}

// TestReqReadOfTextsThatAreNearlyRight takes each byte out, turns it, and puts others ahead of it.
func TestReqReadOfTextsThatAreNearlyRight(t *testing.T) {
	right, wrong := 0, 0
	try := func(text string) {
		if !reqForm.MatchString(text) {
			wrong++
			wantReqRead(t, text, impl.ReqOut{Code: badSyntax})
			return
		}
		right++
		if got := impl.ReqRead(text); got.Code != ok || !isReq(got.Req) || writtenReq(got.Req) != text {
			t.Errorf("ReqRead(%q): got %+v", text, got)
		}
	}
	for kind := int64(1); kind <= mostKind; kind++ {
		text := writtenReq(baseReq(kind))
		for at := 0; at <= len(text); at++ {
			try(text[:at])
			for _, b := range " .:+-0123459abfgmdt_\n\x00é" {
				try(text[:at] + string(b) + text[at:])
				if at < len(text) {
					try(text[:at] + string(b) + text[at+1:])
				}
			}
			for end := at + 1; end <= len(text); end++ {
				try(text[:at] + text[end:])
				try(text[:end] + text[at:])
			}
		}
		for other := range kindWords {
			try(kindWords[other] + strings.TrimPrefix(text, kindWords[kind]))
		}
	}
	if right < 500 || wrong < 5000 {
		t.Errorf("%d right texts and %d wrong ones were tried", right, wrong)
	}
}

// TestReqRightOfRequestsByChance fills each field by chance, also with what it may not be.
func TestReqRightOfRequestsByChance(t *testing.T) {
	r := rand.New(rand.NewSource(7))
	words := append([]string{"", "", "", "ann", "ab1", "z9"}, noWords()[:6]...)
	right := 0
	for range 60000 {
		q := impl.Req{Kind: r.Int63n(mostKind+3) - 1, Token: []int64{0, 1, 1, 37, 999, 1000}[r.Intn(6)]}
		if r.Intn(3) > 0 {
			q.Home, q.Loc = r.Int63n(mostHouses+2), r.Int63n(mostLoc+2)
		}
		q.Name, q.Flight = words[r.Intn(len(words))], words[r.Intn(len(words))]
		if r.Intn(2) > 0 {
			q.Seat = impl.Seat{Row: r.Int63n(mostRows + 2), Col: r.Int63n(mostCols+2) - 1}
		}
		if r.Intn(2) > 0 {
			q.To = r.Int63n(mostHouses + 2)
		}
		if r.Intn(2) > 0 {
			q = onlyWhatItHas(q)
		}
		want := isReq(q)
		if got := impl.ReqRight(q); got != want {
			t.Fatalf("ReqRight(%+v): got %v", q, got)
		}
		text := ""
		if want {
			right++
			text = writtenReq(q)
			wantReqRead(t, text, impl.ReqOut{Req: q})
		}
		if got := impl.ReqText(q); got != text {
			t.Fatalf("ReqText(%+v): got %q, want %q", q, got, text)
		}
	}
	if right < 3000 {
		t.Errorf("only %d right requests were tried", right)
	}
}

func TestTextsOfRequestsAreNewMemory(t *testing.T) {
	for _, text := range []string{"name 1 1.1 " + rep("n", 8), "map 1 " + rep("f", 8), "hold 1 1.1 " + rep("f", 8) + " 1a", "free 1 1.1 " + rep("g", 8) + " 20f"} {
		read := impl.ReqRead(text)
		if read.Code != ok {
			t.Errorf("ReqRead(%q): got %+v", text, read)
		}
		for _, told := range []string{read.Req.Name, read.Req.Flight} {
			if told != "" && sharesMemory(told, text) {
				t.Errorf("%q is told in memory of the argument", told)
			}
			if told != "" && sharesMemory(told, impl.ReqText(read.Req)) {
				t.Errorf("%q is told by ReqText in memory of the argument", told)
			}
		}
	}
}

// TestRequestsAreToldAnewEachTime: nothing is kept from one call to the next.
func TestRequestsAreToldAnewEachTime(t *testing.T) {
	texts := []string{"name 1 1.1 ann", "make 2", "", "hold 3 2.2 ab1 1a", "make 01", "map 4 b", "take 5 3.3", "offer 6 4.4 1"}
	var first []impl.ReqOut
	for _, text := range texts {
		first = append(first, impl.ReqRead(text))
	}
	for range 3 {
		slices.Reverse(texts)
		slices.Reverse(first)
		for i, text := range texts {
			wantReqRead(t, text, first[i])
		}
	}
}
