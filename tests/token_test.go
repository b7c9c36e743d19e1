package tests

import (
	"math"
	"math/rand"
	"slices"
	"strconv"
	"strings"
	"testing"

	"loop.example/g00755/impl"
)

const (
	badNone    = 6
	badFull    = 9
	mostTokens = 20
	mostNo     = 999
	mostRole   = 3
	mostKind   = 10
	lastTime   = 1000000
)

// tokenOf is a right token of that number; its other fields differ from number to number.
func tokenOf(no int64) impl.Token {
	return impl.Token{No: no, House: no%mostHouses + 1, Role: no%mostRole + 1, Till: no * 1000}
}

// tokensOf are tokens of these numbers.
func tokensOf(nos ...int64) []impl.Token {
	var l []impl.Token
	for _, no := range nos {
		l = append(l, tokenOf(no))
	}
	return l
}

// tokensUpTo are n tokens in a row, of which the last one has that number.
func tokensUpTo(n int, last int64) []impl.Token {
	var l []impl.Token
	for no := last - int64(n) + 1; no <= last; no++ {
		l = append(l, tokenOf(no))
	}
	return l
}

// rightTokens are lists that are right, from none to the most.
func rightTokens() [][]impl.Token {
	edges := []impl.Token{{No: 1, House: 1, Role: 1, Till: 0}, {No: mostNo, House: mostHouses, Role: mostRole, Till: lastTime}}
	l := [][]impl.Token{nil, {}, edges, edges[:1], edges[1:], tokensOf(1, 3, 500), tokensOf(2), tokensOf(998), tokensOf(998, 999)}
	for n := 1; n <= mostTokens; n++ {
		l = append(l, tokensUpTo(n, int64(n)), tokensUpTo(n, mostNo), tokensUpTo(n, mostNo-1))
	}
	alikeButNo := []impl.Token{{No: 1, House: 2, Role: 2, Till: 7}, {No: 2, House: 2, Role: 2, Till: 7}}
	falling := []impl.Token{{No: 1, House: 4, Role: 3, Till: 9}, {No: 2, House: 3, Role: 2, Till: 8}, {No: 3, House: 1, Role: 1, Till: 0}}
	return append(l, alikeButNo, falling)
}

type wrongList struct {
	what   string
	tokens []impl.Token
}

// wrongTokens are lists of at most MaxList tokens, each with a fault.
func wrongTokens() []wrongList {
	l := []wrongList{
		{"the zero token", []impl.Token{{}}},
		{"one too many", tokensUpTo(mostTokens+1, mostTokens+1)},
		{"far too many", tokensUpTo(mostList, mostList)},
		{"two that fall", tokensOf(2, 1)},
		{"two that are alike", tokensOf(1, 1)},
		{"the first two fall", tokensOf(5, 4, 6)},
		{"the last two fall", tokensOf(4, 6, 5)},
		{"the first two are alike", tokensOf(4, 4, 5)},
		{"the last two are alike", tokensOf(4, 5, 5)},
		{"the last one as the first one", tokensOf(4, 5, 4)},
		{"two of one number that differ", []impl.Token{{No: 7, House: 1, Role: 1, Till: 1}, {No: 7, House: 2, Role: 2, Till: 2}}},
		{"the most, the last two alike", append(tokensUpTo(mostTokens-1, mostTokens-1), tokenOf(mostTokens-1))},
	}
	for place := 0; place < 3; place++ {
		for _, field := range []string{"No", "House", "Role", "Till"} {
			for _, n := range outOf(field) {
				tokens := tokensOf(10, 20, 30)
				setField(&tokens[place], field, n)
				l = append(l, wrongList{field + " " + strconv.FormatInt(n, 10) + " at " + strconv.Itoa(place), tokens})
			}
		}
	}
	for _, no := range outOf("No") {
		l = append(l, wrongList{"alone No " + strconv.FormatInt(no, 10), []impl.Token{{No: no, House: 1, Role: 1, Till: 1}}})
	}
	return append(l, wrongList{"a No of 0 that rises", tokensOf(0, 1)}, wrongList{"a No of 1000 that rises", []impl.Token{tokenOf(999), {No: 1000, House: 1, Role: 1}}})
}

// outOf are numbers that a token's field can not be, those next to what it can be first.
func outOf(field string) []int64 {
	far := []int64{math.MinInt64, 1<<32 + 1, math.MaxInt64}
	switch field {
	case "No":
		return append([]int64{0, mostNo + 1, -1}, far...)
	case "House":
		return append([]int64{0, mostHouses + 1, -1}, far...)
	case "Role":
		return append([]int64{0, mostRole + 1, -1}, far...)
	}
	return append([]int64{-1, lastTime + 1}, far...)
}

func setField(t *impl.Token, field string, n int64) {
	switch field {
	case "No":
		t.No = n
	case "House":
		t.House = n
	case "Role":
		t.Role = n
	case "Till":
		t.Till = n
	}
}

// tooManyTokens are more than a list may have, of which some are else right.
func tooManyTokens() [][]impl.Token {
	return [][]impl.Token{tokensUpTo(mostList+1, mostList+1), make([]impl.Token, mostList+1), tokensUpTo(2*mostList, mostNo)}
}

func wantTokensOut(t *testing.T, call string, got, want impl.TokensOut) {
	t.Helper()
	if got.Code != want.Code || got.No != want.No || !slices.Equal(got.Tokens, want.Tokens) {
		t.Errorf("%s: got %+v, want %+v", call, got, want)
	}
}

// wantIssue also looks whether what is handed in stays as it was.
func wantIssue(t *testing.T, l []impl.Token, house, role, till int64, want impl.TokensOut) {
	t.Helper()
	was := slices.Clone(l)
	got := impl.Issue(l, house, role, till)
	wantTokensOut(t, "Issue of "+strconv.Itoa(len(l))+" tokens", got, want)
	if !slices.Equal(l, was) {
		t.Errorf("Issue of %v: its argument is %v behind it", was, l)
	}
}

// wantIssued asks for the tokens with one more.
func wantIssued(t *testing.T, l []impl.Token, no int64) {
	t.Helper()
	more := impl.Token{No: no, House: 3, Role: 2, Till: 55}
	wantIssue(t, l, 3, 2, 55, impl.TokensOut{Tokens: append(slices.Clone(l), more), No: no})
}

func wantRevoke(t *testing.T, l []impl.Token, no int64, want impl.TokensOut) {
	t.Helper()
	was := slices.Clone(l)
	got := impl.Revoke(l, no)
	wantTokensOut(t, "Revoke of "+strconv.FormatInt(no, 10)+" out of "+strconv.Itoa(len(l)), got, want)
	if !slices.Equal(l, was) {
		t.Errorf("Revoke of %d out of %v: its argument is %v behind it", no, was, l)
	}
}

func wantShown(t *testing.T, l []impl.Token, no, now int64, want impl.Token) {
	t.Helper()
	was := slices.Clone(l)
	if got := impl.Shows(l, no, now); got != want {
		t.Errorf("Shows(%d tokens, %d, %d): got %+v, want %+v", len(l), no, now, got, want)
	}
	if !slices.Equal(l, was) {
		t.Errorf("Shows(%d, %d) of %v: its argument is %v behind it", no, now, was, l)
	}
}

func TestRolesAndKinds(t *testing.T) {
	got := []int64{impl.RoRead, impl.RoBook, impl.RoChief, impl.RqMake, impl.RqName, impl.RqHold, impl.RqFree,
		impl.RqCancel, impl.RqOffer, impl.RqTake, impl.RqRead, impl.RqMap, impl.RqAudit}
	if want := []int64{1, 2, 3, 1, 2, 3, 4, 5, 6, 7, 8, 9, 10}; !slices.Equal(got, want) {
		t.Errorf("got %v, want %v", got, want)
	}
}

func TestTokensRight(t *testing.T) {
	for _, l := range rightTokens() {
		if !impl.TokensRight(l) {
			t.Errorf("%v are right", l)
		}
	}
	for _, c := range wrongTokens() {
		was := slices.Clone(c.tokens)
		if impl.TokensRight(c.tokens) {
			t.Errorf("%s: these are not right", c.what)
		}
		if !slices.Equal(c.tokens, was) {
			t.Errorf("%s: the argument is %v behind it", c.what, c.tokens)
		}
	}
	for _, l := range tooManyTokens() {
		if impl.TokensRight(l) {
			t.Errorf("%d tokens are too many", len(l))
		}
	}
}

func TestTokensRightAtItsEdges(t *testing.T) {
	for _, c := range []struct {
		field     string
		low, high int64
	}{{"No", 1, mostNo}, {"House", 1, mostHouses}, {"Role", 1, mostRole}, {"Till", 0, lastTime}} {
		for _, n := range []int64{c.low - 1, c.low, c.low + 1, c.high - 1, c.high, c.high + 1} {
			token := tokenOf(5)
			setField(&token, c.field, n)
			want := n >= c.low && n <= c.high
			if got := impl.TokensRight([]impl.Token{token}); got != want {
				t.Errorf("%s %d: got %v", c.field, n, got)
			}
		}
	}
}

func TestTokensRightOfAnyNumberOfThem(t *testing.T) {
	for n := 0; n <= mostTokens+5; n++ {
		if got, want := impl.TokensRight(tokensUpTo(n, int64(n))), n <= mostTokens; got != want {
			t.Errorf("%d tokens: got %v", n, got)
		}
	}
}

// TestTokensRightOfAnyThree holds each order of small numbers against what rises.
func TestTokensRightOfAnyThree(t *testing.T) {
	for i := 0; i < 5*5*5; i++ {
		a, b, c := int64(i%5), int64(i/5%5), int64(i/25)
		want := a >= 1 && a < b && b < c
		if got := impl.TokensRight(tokensOf(a, b, c)); got != want {
			t.Errorf("%d, %d, %d: got %v", a, b, c, got)
		}
	}
}

func TestIssueGivesOneMore(t *testing.T) {
	for _, c := range []struct {
		what string
		l    []impl.Token
		no   int64
	}{
		{"into none", nil, 1},
		{"into an empty list", []impl.Token{}, 1},
		{"behind 1", tokensOf(1), 2},
		{"behind 2, though there is no 1", tokensOf(2), 3},
		{"behind a gap", tokensOf(1, 7), 8},
		{"behind two gaps", tokensOf(2, 4, 400), 401},
		{"as the last one but one", tokensUpTo(mostTokens-2, mostTokens-2), mostTokens - 1},
		{"as the last one", tokensUpTo(mostTokens-1, mostTokens-1), mostTokens},
		{"behind 997", tokensOf(997), 998},
		{"behind 998", tokensOf(998), mostNo},
		{"behind 19, of which the last is 998", tokensUpTo(mostTokens-1, 998), mostNo},
	} {
		t.Run(c.what, func(t *testing.T) {
			wantIssued(t, c.l, c.no)
		})
	}
}

func TestIssueWhereItIsFull(t *testing.T) {
	full := impl.TokensOut{Code: badFull}
	for _, l := range [][]impl.Token{tokensUpTo(mostTokens, mostTokens), tokensUpTo(mostTokens, 998), tokensUpTo(mostTokens, mostNo),
		tokensOf(mostNo), tokensOf(1, mostNo), tokensUpTo(mostTokens-1, mostNo)} {
		wantIssue(t, l, 1, 1, 1, full)
		wantIssue(t, l, mostHouses, mostRole, lastTime, full)
	}
}

func TestIssueToWhomAndTillWhen(t *testing.T) {
	for _, c := range []struct {
		house, role, till int64
	}{{1, 1, 0}, {1, 1, 1}, {mostHouses, 1, 0}, {2, 2, 500}, {3, mostRole, lastTime - 1}, {mostHouses, mostRole, lastTime}} {
		for _, l := range [][]impl.Token{nil, tokensOf(4, 6)} {
			no := int64(1)
			if len(l) > 0 {
				no = 7
			}
			more := impl.Token{No: no, House: c.house, Role: c.role, Till: c.till}
			wantIssue(t, l, c.house, c.role, c.till, impl.TokensOut{Tokens: append(slices.Clone(l), more), No: no})
		}
	}
}

// TestIssueRefuses what can not be, also where there is no room besides.
func TestIssueRefuses(t *testing.T) {
	form := impl.TokensOut{Code: badForm}
	for _, l := range [][]impl.Token{nil, {}, tokensOf(1, 5), tokensUpTo(mostTokens, mostTokens), tokensOf(mostNo)} {
		for _, n := range outOf("House") {
			wantIssue(t, l, n, 1, 1, form)
		}
		for _, n := range outOf("Role") {
			wantIssue(t, l, 1, n, 1, form)
		}
		for _, n := range outOf("Till") {
			wantIssue(t, l, 1, 1, n, form)
		}
		wantIssue(t, l, 0, 0, -1, form)
	}
	for _, c := range wrongTokens() {
		t.Run(c.what, func(t *testing.T) {
			wantIssue(t, c.tokens, 1, 1, 1, form)
			wantIssue(t, c.tokens, 0, 0, -1, form)
		})
	}
	for _, l := range tooManyTokens() {
		wantIssue(t, l, 1, 1, 1, impl.TokensOut{Code: badSize})
		wantIssue(t, l, 0, 0, -1, impl.TokensOut{Code: badSize})
	}
}

func TestRevokeTakesOneOut(t *testing.T) {
	for _, l := range rightTokens() {
		for place, token := range l {
			wantRevoke(t, l, token.No, impl.TokensOut{Tokens: slices.Delete(slices.Clone(l), place, place+1)})
		}
	}
	l := tokensOf(2, 30, 31, 400)
	wantRevoke(t, l, 2, impl.TokensOut{Tokens: tokensOf(30, 31, 400)})
	wantRevoke(t, l, 30, impl.TokensOut{Tokens: tokensOf(2, 31, 400)})
	wantRevoke(t, l, 400, impl.TokensOut{Tokens: tokensOf(2, 30, 31)})
	wantRevoke(t, tokensOf(7), 7, impl.TokensOut{})
}

func TestRevokeOfNoToken(t *testing.T) {
	none := impl.TokensOut{Code: badNone}
	nos := []int64{math.MinInt64, -1, 0, mostNo + 1, 1<<32 + 2, math.MaxInt64}
	for _, l := range rightTokens() {
		for _, no := range append(nos, 1, 2, 3, 20, 21, 500, 998, mostNo) {
			if !slices.ContainsFunc(l, func(t impl.Token) bool { return t.No == no }) {
				wantRevoke(t, l, no, none)
			}
		}
	}
}

func TestRevokeRefuses(t *testing.T) {
	for _, c := range wrongTokens() {
		t.Run(c.what, func(t *testing.T) {
			for _, no := range []int64{c.tokens[0].No, c.tokens[len(c.tokens)-1].No, -1, 0, 10, 77} {
				wantRevoke(t, c.tokens, no, impl.TokensOut{Code: badForm})
			}
		})
	}
	for _, l := range tooManyTokens() {
		for _, no := range []int64{-1, 0, 1, l[0].No, l[mostList].No} {
			wantRevoke(t, l, no, impl.TokensOut{Code: badSize})
		}
	}
}

// TestShowsTillItsTime looks one below Till, at it, and one above it.
func TestShowsTillItsTime(t *testing.T) {
	for _, till := range []int64{0, 1, 5, lastTime - 1, lastTime} {
		token := impl.Token{No: 3, House: 2, Role: 1, Till: till}
		for _, l := range [][]impl.Token{{token}, {tokenOf(1), token}, {token, tokenOf(900)}, {tokenOf(2), token, tokenOf(4)}} {
			wantShown(t, l, 3, till-1, token)
			wantShown(t, l, 3, till, token)
			wantShown(t, l, 3, till+1, impl.Token{})
			wantShown(t, l, 3, math.MaxInt64, impl.Token{})
		}
	}
}

func TestShowsEachOfItsOwnTime(t *testing.T) {
	for _, l := range rightTokens() {
		for _, token := range l {
			for _, now := range []int64{0, token.Till / 2, token.Till, token.Till + 1, lastTime, lastTime + 1} {
				want := token
				if now > token.Till {
					want = impl.Token{}
				}
				wantShown(t, l, token.No, now, want)
			}
		}
	}
}

// TestShowsOfANowThatIsNoTime asks whether it is later than Till, and for no more.
func TestShowsOfANowThatIsNoTime(t *testing.T) {
	l := tokensOf(1, 2)
	for _, now := range []int64{-1, math.MinInt64} {
		wantShown(t, l, 2, now, tokenOf(2))
		wantShown(t, l, 3, now, impl.Token{})
	}
	for _, now := range []int64{lastTime + 1, math.MaxInt64} {
		wantShown(t, l, 2, now, impl.Token{})
	}
}

func TestShowsOfNoToken(t *testing.T) {
	for _, l := range [][]impl.Token{nil, {}, tokensOf(2), tokensOf(2, 5, 998), tokensUpTo(mostTokens, 40)} {
		for _, no := range []int64{math.MinInt64, -1, 0, 1, 3, 4, 20, 41, 999, 1000, 1<<32 + 2, math.MaxInt64} {
			for _, now := range []int64{math.MinInt64, -1, 0, 1, lastTime} {
				wantShown(t, l, no, now, impl.Token{})
			}
		}
	}
}

func TestShowsOfTokensThatAreNotRight(t *testing.T) {
	lists := tooManyTokens()
	for _, c := range wrongTokens() {
		lists = append(lists, c.tokens)
	}
	for _, l := range lists {
		for _, token := range []impl.Token{l[0], l[len(l)/2], l[len(l)-1]} {
			for _, now := range []int64{math.MinInt64, 0, token.Till} {
				wantShown(t, l, token.No, now, impl.Token{})
			}
		}
	}
}

// mayKinds says of each role the kinds that it may ask, as chapter 5 names them.
var mayKinds = map[int64]string{
	1: " read map ",
	2: " read map make name hold free cancel ",
	3: " read map make name hold free cancel offer take audit ",
}

var kindWords = []string{"", "make", "name", "hold", "free", "cancel", "offer", "take", "read", "map", "audit"}

func TestRoleMay(t *testing.T) {
	for role := int64(1); role <= mostRole; role++ {
		for kind := int64(1); kind <= mostKind; kind++ {
			want := strings.Contains(mayKinds[role], " "+kindWords[kind]+" ")
			if got := impl.RoleMay(role, kind); got != want {
				t.Errorf("role %d, %s: got %v", role, kindWords[kind], got)
			}
		}
	}
}

func TestRoleMayOfNoRoleAndNoKind(t *testing.T) {
	far := []int64{math.MinInt64, -1 << 32, -2, -1, 0, mostKind + 1, mostKind + 2, 1<<32 + 1, math.MaxInt64}
	for _, role := range append(far, mostRole+1) {
		for kind := int64(-1); kind <= mostKind+1; kind++ {
			if impl.RoleMay(role, kind) {
				t.Errorf("role %d, which is none, may ask %d", role, kind)
			}
		}
	}
	for _, kind := range far {
		for role := int64(0); role <= mostRole+1; role++ {
			if impl.RoleMay(role, kind) {
				t.Errorf("role %d may ask %d, which is no kind", role, kind)
			}
		}
	}
}

func TestEachRoleMayMoreThanTheOneBelow(t *testing.T) {
	for role := int64(1); role < mostRole; role++ {
		more := 0
		for kind := int64(1); kind <= mostKind; kind++ {
			below, above := impl.RoleMay(role, kind), impl.RoleMay(role+1, kind)
			if below && !above {
				t.Errorf("role %d may ask %d, and role %d may not", role, kind, role+1)
			}
			if above && !below {
				more++
			}
		}
		if more == 0 {
			t.Errorf("role %d may no more than role %d", role+1, role)
		}
	}
}

// TestANumberIsGivenAnew: a token's number is one above the last that is there, not above all that ever were.
func TestANumberIsGivenAnew(t *testing.T) {
	l := impl.Revoke(tokensOf(1, 2, 3), 3).Tokens
	wantIssued(t, l, 3)
	l = impl.Revoke(tokensOf(1, 2, 3), 2).Tokens
	wantIssued(t, l, 4)
	l = impl.Revoke(tokensOf(1), 1).Tokens
	wantIssued(t, l, 1)
	l = impl.Revoke(tokensOf(5, mostNo), mostNo).Tokens
	wantIssued(t, l, 6)
	l = impl.Revoke(tokensUpTo(mostTokens, 60), 50).Tokens
	wantIssued(t, l, 61)
}

// TestTokensShowTillTheyAreRevoked gives and revokes tokens by chance, beside a model that is a map.
func TestTokensShowTillTheyAreRevoked(t *testing.T) {
	r := rand.New(rand.NewSource(5))
	for round := 0; round < 40; round++ {
		var l []impl.Token
		model := map[int64]impl.Token{}
		for step := 0; step < 80; step++ {
			if r.Intn(3) > 0 {
				token := impl.Token{House: int64(1 + r.Intn(4)), Role: int64(1 + r.Intn(3)), Till: int64(r.Intn(30))}
				l = issuedBeside(t, l, model, token)
			} else {
				l = revokedBeside(t, l, model, int64(r.Intn(30)))
			}
			if len(l) != len(model) || !impl.TokensRight(l) {
				t.Fatalf("%v: want %v", l, model)
			}
			wantShowsAs(t, l, model, int64(r.Intn(32)))
		}
	}
}

// issuedBeside gives out a token, and puts it into the model too.
func issuedBeside(t *testing.T, l []impl.Token, model map[int64]impl.Token, token impl.Token) []impl.Token {
	t.Helper()
	for no := range model {
		token.No = max(token.No, no)
	}
	token.No++
	out := impl.Issue(l, token.House, token.Role, token.Till)
	if len(model) == mostTokens {
		wantTokensOut(t, "one too many", out, impl.TokensOut{Code: badFull})
		return l
	}
	if out.Code != ok || out.No != token.No {
		t.Fatalf("Issue: got %+v, want No %d", out, token.No)
	}
	model[token.No] = token
	return out.Tokens
}

// revokedBeside takes a token out, and out of the model too.
func revokedBeside(t *testing.T, l []impl.Token, model map[int64]impl.Token, no int64) []impl.Token {
	t.Helper()
	out := impl.Revoke(l, no)
	if _, there := model[no]; !there {
		wantTokensOut(t, "one that is not there", out, impl.TokensOut{Code: badNone})
		return l
	}
	if out.Code != ok || out.No != 0 {
		t.Fatalf("Revoke of %d: got %+v", no, out)
	}
	delete(model, no)
	return out.Tokens
}

// wantShowsAs holds Shows of each number against the model.
func wantShowsAs(t *testing.T, l []impl.Token, model map[int64]impl.Token, now int64) {
	t.Helper()
	for no := int64(0); no <= 100; no++ {
		want := model[no]
		if want.Till < now {
			want = impl.Token{}
		}
		wantShown(t, l, no, now, want)
	}
}

// TestTokensThatAreToldAreNewMemory writes over all of an answer, and looks at what stands around the argument.
func TestTokensThatAreToldAreNewMemory(t *testing.T) {
	for size := 0; size <= 6; size++ {
		whole := tokensUpTo(8, 18)
		was := slices.Clone(whole)
		l := whole[:size]
		answers := []impl.TokensOut{impl.Issue(l, 1, 1, 1)}
		for _, token := range l {
			answers = append(answers, impl.Revoke(l, token.No))
		}
		for i, out := range answers {
			told := slices.Clone(out.Tokens)
			clear(l)
			if !slices.Equal(out.Tokens, told) {
				t.Errorf("%d tokens, answer %d: it turns with the argument", size, i)
			}
			copy(whole, was)
			for j := range out.Tokens[:cap(out.Tokens)] {
				out.Tokens[:cap(out.Tokens)][j] = impl.Token{No: -1}
			}
			if !slices.Equal(whole, was) {
				t.Fatalf("%d tokens, answer %d: behind it stands %v", size, i, whole)
			}
		}
	}
}

// TestTokensAreToldAnewEachTime: nothing is kept from one call to the next.
func TestTokensAreToldAnewEachTime(t *testing.T) {
	l := tokensOf(1, 2, 3)
	impl.Revoke(l, 2)
	wantShown(t, l, 2, 0, tokenOf(2))
	wantRevoke(t, l, 2, impl.TokensOut{Tokens: tokensOf(1, 3)})
	impl.Issue(l, 1, 1, 1)
	wantShown(t, l, 4, 0, impl.Token{})
	wantIssued(t, l, 4)
	first, second := impl.Issue(l, 1, 1, 1), impl.Issue(l, 2, 2, 2)
	if first.Tokens[3].House != 1 || second.Tokens[3].House != 2 {
		t.Errorf("two that were given beside each other: %v and %v", first.Tokens[3], second.Tokens[3])
	}
}
