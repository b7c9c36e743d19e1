package tests

import (
	"encoding/binary"
	"fmt"
	"hash/crc32"
	"math/rand"
	"reflect"
	"runtime"
	"slices"
	"strings"
	"sync"
	"testing"
	"time"

	"loop.example/g00755/impl"
)

// sealed is Seal told in another way.
func sealed(text string) string {
	return text + string(binary.LittleEndian.AppendUint32(nil, crc32.ChecksumIEEE([]byte(text))))
}

// recordWith is a record of any text, which may be no request's.
func recordWith(text string) string {
	return numberBytes(int64(len(text))+4) + sealed(text)
}

// logWith are the records of texts, one behind the other.
func logWith(texts ...string) string {
	log := ""
	for _, text := range texts {
		log += recordWith(text)
	}
	return log
}

// logOfReqs are the records of right requests, one behind the other.
func logOfReqs(l []impl.Req) string {
	log := ""
	for _, r := range l {
		log += recordWith(writtenReq(r))
	}
	return log
}

// reqsIn is LogRead told in another way, of no more bytes than the limit.
func reqsIn(bytes string) []impl.Req {
	var l []impl.Req
	for {
		n, size := binary.Varint([]byte(bytes))
		if size <= 0 || bytes[:size] != numberBytes(n) || n < 4 || n > int64(len(bytes)-size) {
			return l
		}
		text, behind := bytes[size:size+int(n)-4], size+int(n)
		if bytes[size:behind] != sealed(text) || !reqForm.MatchString(text) {
			return l
		}
		l, bytes = append(l, impl.ReqRead(text).Req), bytes[behind:]
	}
}

// doneBy gives of requests, done in the way of the model, those that are written down, and the hosts ahead of all and behind each of these.
func doneBy(h impl.Host, l []impl.Req) ([]impl.Req, []impl.Host) {
	var done []impl.Req
	now := hostCopy(h)
	hosts := []impl.Host{hostCopy(h)}
	for _, r := range l {
		if reply := modelled(&now, r); reply.Code == ok && r.Kind <= lastKind {
			done, hosts = append(done, r), append(hosts, hostCopy(now))
		}
	}
	return done, hosts
}

// logTexts are requests of all ten kinds, some refused and some of no text, and logDone those of them that are written down at deskHost.
var (
	logTexts = []string{"make 1", "name 1 1.6 ann", "read 1 1.6", "hold 1 1.6 ab1 1c", "hold 2 1.4 ab1 1c", "", "free 1 1.1 ab1 1a", "map 1 ab1", "offer 1 1.6 3",
		"take 2 1.6", "take 3 1.6", "name 1 1.6 bob", "cancel 1 1.2", "make 5", "audit 1", "make 9", "make 999", "cancel 1 1.2", "read 2 1.1", "map 1 zz"}
	logDone = []string{"make 1", "name 1 1.6 ann", "hold 1 1.6 ab1 1c", "free 1 1.1 ab1 1a", "offer 1 1.6 3", "take 3 1.6", "cancel 1 1.2", "make 999"}
)

// logHost is what comes of logTexts at deskHost, written out by hand.
func logHost() impl.Host {
	return deskWith(func(h *impl.Host) {
		h.Pnrs = pnrsOf("1.1 of 1 live to 2 +ann cd2:20f", "1.2 of 1 gone +a +b +c +d", "1.3 of 1 gone +eve", "1.4 of 2 live +bob ab1:2c",
			"1.5 of 1 live cd2:1a cd2:1b cd2:1c cd2:1d", "1.6 of 3 live +ann ab1:1c", "2.1 of 1 live +zed", "2.2 of 2 live to 1 b:1a", "2.3 of 2 gone",
			"2.4 of 2 live", "3.1 of 3 live to 1 ab1:1b")
		h.Audits[0].Entries = append(h.Audits[0].Entries, impl.Entry{Kind: 1, Home: 1, Loc: 6}, impl.Entry{Kind: 2, Home: 1, Loc: 6}, impl.Entry{Kind: 3, Home: 1, Loc: 6},
			impl.Entry{Kind: 4, Home: 1, Loc: 1}, impl.Entry{Kind: 6, Home: 1, Loc: 6}, impl.Entry{Kind: 5, Home: 1, Loc: 2})
		h.Audits[1].Entries = append(h.Audits[1].Entries, impl.Entry{Kind: 1, Home: 2, Loc: 4})
		h.Audits[2].Entries = append(h.Audits[2].Entries, impl.Entry{Kind: 7, Home: 1, Loc: 6})
	})
}

// wantLogOf also looks whether what is handed in stays as it was.
func wantLogOf(t *testing.T, what string, h impl.Host, l []impl.Req, want string) {
	t.Helper()
	was, list := hostCopy(h), slices.Clone(l)
	if got := impl.LogOf(h, l); got != want {
		t.Errorf("%s: got %d bytes, %.200q, want %d, %.200q", what, len(got), got, len(want), want)
	}
	if !sameHosts(h, was) || !slices.Equal(l, list) {
		t.Errorf("%s: the arguments are %.1000v, %.1000v behind it", what, h, l)
	}
}

func wantLogRead(t *testing.T, what, bytes string, want []impl.Req) {
	t.Helper()
	if got := impl.LogRead(bytes); !slices.Equal(got, want) {
		t.Errorf("%s: got %d requests, %.300v, want %d, %.300v", what, len(got), got, len(want), want)
	}
}

// wantRecover also looks whether what is handed in stays as it was, and whether a right host comes of it.
func wantRecover(t *testing.T, what string, h impl.Host, bytes string, want impl.Host) {
	t.Helper()
	was := hostCopy(h)
	got := impl.Recover(h, bytes)
	if !sameHosts(got, want) {
		t.Errorf("%s: got %.1000v, want %.1000v", what, got, want)
	}
	if !reflect.DeepEqual(want, impl.Host{}) && !impl.HostRight(got) {
		t.Errorf("%s: %.1000v is not right", what, got)
	}
	if !sameHosts(h, was) {
		t.Errorf("%s: the argument is %.1000v behind it", what, h)
	}
}

// TestRecordsByHand writes some records out byte by byte: the length of all behind it, the text, its CRC.
func TestRecordsByHand(t *testing.T) {
	for text, want := range map[string]string{
		"make 1":                    "\x14make 1\x8b\xbe\x9b\xc7",
		"audit 7":                   "\x16audit 7\x78\x2c\x1f\xbf",
		"hold 999 4.9 abcdefgh 20f": "\x3ahold 999 4.9 abcdefgh 20f\x07\xb8\x09\x71",
	} {
		if got := impl.RecordOf(impl.ReqRead(text).Req); got != want {
			t.Errorf("RecordOf %s: got %q, want %q", text, got, want)
		}
		wantLogRead(t, text, want, reqsOf(text))
	}
}

func TestRecordsOfRightRequests(t *testing.T) {
	l := someReqs()
	for kind := int64(1); kind <= mostKind; kind++ {
		l = append(l, baseReq(kind))
	}
	for _, r := range l {
		want := recordWith(writtenReq(r))
		if got := impl.RecordOf(r); got != want {
			t.Errorf("RecordOf %+v: got %q, want %q", r, got, want)
		}
		wantText(t, want, 0, impl.TextOut{Text: sealed(writtenReq(r)), At: int64(len(want))})
		wantLogRead(t, writtenReq(r), want, []impl.Req{r})
	}
}

func TestRecordsOfRequestsThatAreNotRight(t *testing.T) {
	for _, c := range wrongReqs() {
		if got := impl.RecordOf(c.req); got != "" {
			t.Errorf("%s: got %q", c.what, got)
		}
	}
}

// TestLogOfAllKinds: what changes something and is done is written down, once, in order, and nothing else is.
func TestLogOfAllKinds(t *testing.T) {
	h, l := deskHost(), reqsOf(logTexts...)
	if got := impl.DoAll(h, l); !sameHosts(got, logHost()) {
		t.Fatalf("of these requests comes %+v", got)
	}
	log := logWith(logDone...)
	wantLogOf(t, "all", h, l, log)
	wantLogRead(t, "all", log, reqsOf(logDone...))
	wantRecover(t, "all", h, log, logHost())
	for n := range l {
		done, hosts := doneBy(h, l[:n])
		wantLogOf(t, fmt.Sprintf("the first %d", n), h, l[:n], logOfReqs(done))
		wantRecover(t, fmt.Sprintf("the first %d", n), h, logOfReqs(done), hosts[len(done)])
		done, _ = doneBy(h, l[n:])
		wantLogOf(t, fmt.Sprintf("without the first %d", n), h, l[n:], logOfReqs(done))
	}
}

func TestLogOfWhatIsDoneAloneAndOfWhatIsRefused(t *testing.T) {
	for text, want := range map[string]bool{
		"make 1": true, "name 1 1.1 bob": true, "hold 1 1.1 ab1 1c": true, "free 1 1.1 ab1 1a": true, "cancel 1 1.1": true, "offer 1 1.1 3": true, "take 1 2.2": true,
		"offer 1 1.1 2": true, // though it is offered to that one already
		"read 1 1.1":    false, "map 1 ab1": false, "audit 1": false, "audit 2": false,
		"make 5": false, "make 8": false, "make 9": false, "offer 6 1.1 3": false, // denied
		"name 1 1.9 x": false, "name 1 1.4 x": false, "take 1 1.1": false, // of no booking, and of another house's
		"cancel 1 1.3": false, "hold 1 1.1 zz 1a": false, "hold 1 1.1 ab1 1b": false, "free 1 1.1 ab1 1c": false, "offer 1 1.1 1": false, "name 1 1.2 e": false, "hold 1 1.5 ab1 1c": false,
		"read 1 4.4": false, "map 1 zz": false, "read 9 1.1": false, "": false,
	} {
		log := ""
		if want {
			log = recordWith(text)
		}
		wantLogOf(t, text, deskHost(), reqsOf(text), log)
		wantLogOf(t, text+" between others", deskHost(), reqsOf("read 1 1.1", text, "map 1 b"), log)
	}
}

// TestLogOfRequestsThatCountOnTheOnesAhead: whether one is written down turns on those that are done ahead of it.
func TestLogOfRequestsThatCountOnTheOnesAhead(t *testing.T) {
	h := deskHost()
	for _, c := range [][2][]string{
		{{"free 1 1.1 ab1 1a", "hold 2 1.4 ab1 1a"}, {"free 1 1.1 ab1 1a", "hold 2 1.4 ab1 1a"}},
		{{"hold 2 1.4 ab1 1a", "free 1 1.1 ab1 1a"}, {"free 1 1.1 ab1 1a"}},
		{{"make 1", "make 1", "cancel 1 1.6", "make 1"}, {"make 1", "cancel 1 1.6", "make 1"}},
		{{"cancel 1 1.1", "cancel 1 1.1", "cancel 1 1.1"}, {"cancel 1 1.1"}},
		{{"take 2 1.1", "name 1 1.1 x", "name 2 1.1 x", "take 2 1.1"}, {"take 2 1.1", "name 2 1.1 x"}},
		{{"hold 1 1.1 ab1 1c", "hold 1 1.1 ab1 1c", "free 1 1.1 ab1 1c", "free 1 1.1 ab1 1c"}, {"hold 1 1.1 ab1 1c", "free 1 1.1 ab1 1c"}},
		{{"name 1 1.1 x", "name 1 1.1 x", "name 1 1.1 x", "name 1 1.1 x"}, {"name 1 1.1 x", "name 1 1.1 x", "name 1 1.1 x"}},
		{{"offer 1 1.1 2", "offer 1 1.1 2"}, {"offer 1 1.1 2", "offer 1 1.1 2"}},
	} {
		log := logWith(c[1]...)
		wantLogOf(t, strings.Join(c[0], ", "), h, reqsOf(c[0]...), log)
		wantRecover(t, strings.Join(c[0], ", "), h, log, impl.DoAll(h, reqsOf(c[0]...)))
	}
}

func TestLogOfRequestsThatAreNotRight(t *testing.T) {
	for _, c := range wrongReqs() {
		wantLogOf(t, c.what, deskHost(), []impl.Req{c.req}, "")
		l := []impl.Req{c.req, impl.ReqRead("make 1").Req, c.req, impl.ReqRead("name 1 1.6 x").Req, c.req}
		wantLogOf(t, c.what+" among others", deskHost(), l, logWith("make 1", "name 1 1.6 x"))
	}
}

// noAudit is deskHost with room in each Audit for as many entries as there can be, and one more chief of house 1.
func noAudit() impl.Host {
	return deskWith(func(h *impl.Host) {
		h.Audits = newHost(nil).Audits
		h.Tokens = slices.Insert(h.Tokens, 8, impl.Token{No: 10, House: 1, Role: 3, Till: 50})
	})
}

// offers are n requests that can be done again and again, of which the last one shows.
func offers(n int) []impl.Req {
	return append(slices.Repeat(reqsOf("offer 1 1.1 3"), n-1), reqsOf("offer 1 1.1 4")...)
}

func TestLogOfAnyNumberOfRequests(t *testing.T) {
	for _, h := range []impl.Host{noAudit(), deskHost(), newHost(nil)} {
		wantLogOf(t, "none", h, nil, "")
		wantLogOf(t, "an empty list", h, []impl.Req{}, "")
	}
	for _, n := range []int{1, 2, 15, 16, 17, 18, 63, 64, 65, mostList - 1, mostList} {
		what := fmt.Sprintf("%d offers", n)
		log := logOfReqs(offers(n))
		wantLogOf(t, what, noAudit(), offers(n), log)
		wantLogRead(t, what, log, offers(n))
		_, hosts := doneBy(noAudit(), offers(n))
		wantRecover(t, what, noAudit(), log, hosts[n])
	}
	for _, n := range []int{mostList + 1, 2 * mostList} {
		what := fmt.Sprintf("%d requests", n)
		wantLogOf(t, what, noAudit(), offers(n), "")
		wantLogOf(t, what+" of which one is done", noAudit(), append(make([]impl.Req, n-1), reqsOf("make 1")...), "")
		wantLogOf(t, what+" of which none is right", noAudit(), make([]impl.Req, n), "")
		wantLogOf(t, what+" of a host that is not right", impl.Host{}, offers(n), "")
	}
	what := "offers at an audit that gets full"
	wantLogOf(t, what, deskHost(), offers(mostList), logOfReqs(slices.Repeat(reqsOf("offer 1 1.1 3"), mostList-2)))
	wantLogOf(t, "at an audit that is full", fullAudit(mostList), reqsOf("make 1", "make 2", "cancel 1 1.1"), recordWith("make 2"))
}

// TestLogOfMoreBytesThanALogThatIsRead: a log may have more than MaxBytes bytes, and is read no more then.
func TestLogOfMoreBytesThanALogThatIsRead(t *testing.T) {
	l := slices.Concat(slices.Repeat(reqsOf("offer 1 1.1 3"), mostList/2), slices.Repeat(reqsOf("hold 1 1.1 ab1 1c", "free 1 1.1 ab1 1c"), mostList/4))
	fits := logOfReqs(l)
	if len(fits) != limit {
		t.Fatalf("these are %d bytes", len(fits))
	}
	wantLogOf(t, "a log that just fits in", noAudit(), l, fits)
	wantLogRead(t, "a log that just fits in", fits, l)
	_, hosts := doneBy(noAudit(), l)
	wantRecover(t, "a log that just fits in", noAudit(), fits, hosts[mostList])
	for _, text := range []string{"offer 10 1.1 3", "name 1 1.1 abcdefgh"} {
		more := append(reqsOf(text), l[1:]...)
		log := logOfReqs(more)
		if len(log) <= limit {
			t.Fatalf("these are %d bytes", len(log))
		}
		wantLogOf(t, "a log too long by "+text, noAudit(), more, log)
		wantLogRead(t, "a log too long by "+text, log, nil)
		wantRecover(t, "a log too long by "+text, noAudit(), log, impl.Host{})
	}
}

func TestLogsOfHostsThatAreNotRight(t *testing.T) {
	logs := []string{"", "junk", recordWith("make 1"), logWith(logDone...), rep("j", limit), rep("j", limit+1)}
	for _, c := range wrongHosts() {
		for _, l := range [][]impl.Req{nil, reqsOf("make 1"), reqsOf(logTexts...), reqsOf("", "map 1 ab1"), make([]impl.Req, mostList+1)} {
			wantLogOf(t, c.what, c.host, l, "")
		}
		for _, log := range logs {
			if got := impl.Recover(c.host, log); !reflect.DeepEqual(got, impl.Host{}) {
				t.Errorf("%s, %d bytes: got %.300v", c.what, len(log), got)
			}
		}
	}
}

// TestALogTornOffAnywhere is promise 11: what is left are the first requests, none left out between, and the host behind these.
func TestALogTornOffAnywhere(t *testing.T) {
	h := deskHost()
	done, hosts := doneBy(h, reqsOf(logTexts...))
	log := logOfReqs(done)
	ends := []int{0} // of the first records
	for _, r := range done {
		ends = append(ends, ends[len(ends)-1]+len(recordWith(writtenReq(r))))
	}
	for cut := 0; cut <= len(log); cut++ {
		whole := 0
		for whole < len(done) && ends[whole+1] <= cut {
			whole++
		}
		what := fmt.Sprintf("%d of %d bytes", cut, len(log))
		wantLogRead(t, what, log[:cut], done[:whole])
		wantRecover(t, what, h, log[:cut], hosts[whole])
	}
}

// TestALogWithAPieceTornOut reads up to the record that lost something, though right ones stand behind it.
func TestALogWithAPieceTornOut(t *testing.T) {
	h, done := deskHost(), reqsOf(logDone...)
	_, hosts := doneBy(h, done)
	for n, r := range done {
		record := recordWith(writtenReq(r))
		ahead, behind := logOfReqs(done[:n]), logOfReqs(done[n+1:])
		for at := range record {
			what := fmt.Sprintf("record %d without what stands at %d", n, at)
			if at > 0 {
				wantLogRead(t, what+" and behind it", ahead+record[:at]+behind, done[:n])
				wantLogRead(t, what+" and ahead of it", ahead+record[at:]+behind, done[:n])
			}
			wantLogRead(t, what, ahead+record[:at]+record[at+1:]+behind, done[:n])
			wantRecover(t, what, h, ahead+record[:at]+record[at+1:]+behind, hosts[n])
		}
	}
}

// TestALogWithOneByteTurned tries each other byte at each place of some records.
func TestALogWithOneByteTurned(t *testing.T) {
	h, done := deskHost(), reqsOf("make 1", "name 1 1.6 ann", "hold 1 1.6 ab1 1c", "make 2")
	_, hosts := doneBy(h, done)
	log := logOfReqs(done)
	for n, at := 0, 0; at < len(log); at++ {
		if at == len(logOfReqs(done[:n+1])) {
			n++
		}
		for turn := 1; turn < 256; turn++ {
			bytes := []byte(log)
			bytes[at] ^= byte(turn)
			wantLogRead(t, fmt.Sprintf("byte %d turned by %d", at, turn), string(bytes), done[:n])
			if turn&(turn-1) == 0 {
				wantRecover(t, fmt.Sprintf("byte %d turned by %d", at, turn), h, string(bytes), hosts[n])
			}
		}
	}
}

// noRecords are bytes that are no record, and none becomes of them by what stands behind.
func noRecords() []string {
	l := []string{"\x00", "\x01", "\x02a", "\x06abc", "\x08\x00\x00\x00", "junk", "\n", "\xff", "\x80", "\x80\x00", "\x14", "\x80\xfd\x01", "\xff\xff\xff\xff\xff\xff\xff\xff\xff\x01",
		rep("\x80", 10), "make 1", sealed("make 1"), "\x0cmake 1", "\x94\x00" + sealed("make 1"), "\x13" + sealed("make 1"),
		numberBytes(10) + "make 1\x00\x00\x00\x00", numberBytes(10) + "make 1\xc7\x9b\xbe\x8b", numberBytes(10) + "\x8b\xbe\x9b\xc7make 1"}
	for _, text := range []string{"", " ", "make", "make 0", "make 01", "make 1000", "make 1 ", " make 1", "make  1", "make 1\n", "make 1\x00", "MAKE 1", "make 1 1.1", "make -1", "give 1", "book 1 1.1",
		"name 1 1.1", "name 1 1.1 Ann", "hold 1 1.1 ab1 21a", "hold 1 1.1 ab1 1g", "read 1 5.1", "read 1 1.10", "offer 1 1.1 5", "map 1", "1.1 of 1 live", "make 1 make 2", "make 1\nmake 2",
		recordWith("make 1"), sealed("make 1"), rep("m", 60), rep("m", 1000)} {
		l = append(l, recordWith(text))
	}
	return l
}

// TestRecordsThatAreNone: behind bytes that are no record nothing is read, and what stands ahead of them is.
func TestRecordsThatAreNone(t *testing.T) {
	h, done := deskHost(), reqsOf(logDone...)
	_, hosts := doneBy(h, done)
	for _, no := range noRecords() {
		what := shown(no)
		wantLogRead(t, what+" alone", no, nil)
		wantRecover(t, what+" alone", h, no, h)
		for n := range len(done) + 1 {
			log := logOfReqs(done[:n]) + no + logOfReqs(done[n:])
			wantLogRead(t, what+" in a log", log, done[:n])
			wantRecover(t, what+" in a log", h, log, hosts[n])
		}
	}
}

func TestLogsOfNoBytesAndOfOtherBytes(t *testing.T) {
	for _, log := range []string{"", "j", "junk", rep("\x00", limit), rep("\xff", limit), rep("\x08", limit), rep("make 1", limit/6)} {
		wantLogRead(t, shown(log), log, nil)
		for _, h := range []impl.Host{deskHost(), baseHost(), newHost(nil), fullAudit(mostList)} {
			wantRecover(t, shown(log), h, log, h)
		}
	}
	r := rand.New(rand.NewSource(11))
	for range 2000 {
		bytes := make([]byte, r.Intn(60))
		for i := range bytes {
			bytes[i] = byte(r.Intn(256))
		}
		log := string(bytes)
		wantLogRead(t, shown(log), log, reqsIn(log))
		wantLogRead(t, shown(log)+" behind a record", recordWith("make 1")+log, append(reqsOf("make 1"), reqsIn(log)...))
	}
}

// TestLogReadOfRequestsThatLogOfLeavesOut reads also what changes nothing, or would be refused, and Recover does it.
func TestLogReadOfRequestsThatLogOfLeavesOut(t *testing.T) {
	texts := slices.DeleteFunc(slices.Clone(logTexts), func(text string) bool { return text == "" })
	wantLogRead(t, "all", logWith(texts...), reqsOf(texts...))
	wantRecover(t, "all", deskHost(), logWith(texts...), logHost())
	wantLogRead(t, "reads", logWith("read 1 1.1", "map 1 zz", "audit 5"), reqsOf("read 1 1.1", "map 1 zz", "audit 5"))
	wantRecover(t, "reads", deskHost(), logWith("read 1 1.1", "map 1 zz", "audit 5"), deskHost())
	wantRecover(t, "refused ones", deskHost(), logWith("make 9", "cancel 1 1.3", "make 2", "hold 1 1.1 zz 1a"), impl.DoAll(deskHost(), reqsOf("make 2")))
}

// TestLogReadUpToTheLimit reads bytes as many as fit in, which may be of more than MaxList requests, and none of more bytes.
func TestLogReadUpToTheLimit(t *testing.T) {
	short, long := reqsOf("make 1"), reqsOf("make 10")
	most := append(slices.Repeat(short, 724), slices.Repeat(long, 3)...)
	full := logOfReqs(most)
	if len(full) != limit {
		t.Fatalf("these are %d bytes", len(full))
	}
	wantLogRead(t, "as many bytes as fit in", full, most)
	wantLogRead(t, "one byte torn off", full[:limit-1], most[:len(most)-1])
	some := logOfReqs(most[:700])
	wantLogRead(t, "other bytes up to the limit", some+rep("j", limit-len(some)), most[:700])
	wantLogRead(t, "other bytes ahead up to the limit", "j"+full[:limit-1], nil)
	for _, log := range []string{full + "j", full + "\x00", "j" + full, some + rep("j", limit+1-len(some)), full + full, recordWith("make 1") + rep("j", limit), rep("j", limit+1),
		logOfReqs(append(slices.Clone(most[:726]), reqsOf("make 100")...)) + "j"} {
		what := fmt.Sprintf("%d bytes", len(log))
		wantLogRead(t, what, log, nil)
		wantRecover(t, what, deskHost(), log, impl.Host{})
	}
}

// TestRecoverOfMoreRequestsThanAList does the first MaxList of a log, and no more.
func TestRecoverOfMoreRequestsThanAList(t *testing.T) {
	fill := recordWith("map 1 b")
	for at := mostList - 3; at <= mostList+3; at++ {
		log := strings.Repeat(fill, at) + recordWith("make 4") + strings.Repeat(fill, 10)
		want := deskHost()
		if at < mostList {
			want = impl.DoAll(want, reqsOf("make 4"))
		}
		what := fmt.Sprintf("a change at %d of %d requests", at, at+11)
		wantLogRead(t, what, log, slices.Concat(slices.Repeat(reqsOf("map 1 b"), at), reqsOf("make 4"), slices.Repeat(reqsOf("map 1 b"), 10)))
		wantRecover(t, what, deskHost(), log, want)
	}
	_, hosts := doneBy(noAudit(), offers(mostList))
	wantRecover(t, "more changes than a list has", noAudit(), logOfReqs(offers(mostList))+logWith("make 2", "make 3", "take 4 1.1"), hosts[mostList])
}

// TestALogAtAnotherHost: Recover does what is read, whichever host it was written of.
func TestALogAtAnotherHost(t *testing.T) {
	log := logWith(logDone...)
	for _, h := range append(rightHosts(), noAudit(), fullAudit(mostList), logHost()) {
		_, hosts := doneBy(h, reqsOf(logDone...))
		wantRecover(t, "another host", h, log, hosts[len(hosts)-1])
	}
}

// TestRecoverGoesOnFromWhereItCame: of two logs, each recovered behind the other, comes what comes of both as one.
func TestRecoverGoesOnFromWhereItCame(t *testing.T) {
	h, l := deskHost(), reqsOf(logTexts...)
	for n := range l {
		first := impl.LogOf(h, l[:n])
		between := impl.Recover(h, first)
		second := impl.LogOf(between, l[n:])
		if first+second != logWith(logDone...) {
			t.Errorf("cut at %d: got %q and %q", n, first, second)
		}
		wantRecover(t, "both, one behind the other", between, second, logHost())
		wantRecover(t, "both as one", h, first+second, logHost())
	}
}

// TestAHostComesToWhereItWas is promise 11 by chance, held against the model.
func TestAHostComesToWhereItWas(t *testing.T) {
	r := rand.New(rand.NewSource(9))
	written := map[int64]int{}
	left := 0
	for range 200 {
		h := someHost(r)
		offeredSome(r, &h)
		h.Tokens, h.Now = deskTokens(), 20
		if r.Intn(5) == 0 {
			h.Audits[r.Intn(mostHouses)].Entries = entriesUpTo(mostList - r.Intn(3))
		}
		now, l := hostCopy(h), []impl.Req{}
		for range r.Intn(60) {
			q := someReq(r, now)
			modelled(&now, q)
			l = append(l, q)
		}
		done, hosts := doneBy(h, l)
		left += len(l) - len(done)
		for _, q := range done {
			written[q.Kind]++
		}
		log := logOfReqs(done)
		wantLogOf(t, "by chance", h, l, log)
		wantRecover(t, "by chance", h, log, now)
		for range 5 {
			cut := r.Intn(len(log) + 1)
			whole := len(reqsIn(log[:cut]))
			wantLogRead(t, "torn off", log[:cut], done[:whole])
			wantRecover(t, "torn off", h, log[:cut], hosts[whole])
		}
		if t.Failed() {
			t.FailNow()
		}
	}
	for kind := int64(firstKind); kind <= lastKind; kind++ {
		if written[kind] < 20 {
			t.Errorf("%s was written down %d times: this tries too little", kindWords[kind], written[kind])
		}
	}
	if left < 500 {
		t.Errorf("only %d requests were left out: this tries too little", left)
	}
}

// TestLogsAreNewMemory writes over what is told, and looks at what was handed in.
func TestLogsAreNewMemory(t *testing.T) {
	log := logWith("make 1", "name 1 1.6 "+rep("n", 8), "hold 1 1.6 cd2 20e")
	h := roomyHost()
	wantNothingShared(t, "Recover", h, impl.Recover(h, log))
	wantNothingShared(t, "Recover of no bytes", h, impl.Recover(h, ""))
	for _, text := range ownTexts(impl.Recover(h, log)) {
		if sharesMemory(text, log) {
			t.Errorf("Recover keeps %q in memory of the log", text)
		}
	}
	for _, r := range impl.LogRead(log) {
		if r.Name != "" && sharesMemory(r.Name, log) || r.Flight != "" && sharesMemory(r.Flight, log) {
			t.Errorf("LogRead tells %+v in memory of the log", r)
		}
	}
	l := []impl.Req{{Kind: impl.RqName, Token: 1, Home: 1, Loc: 1, Name: rep("n", 8)}}
	if told := impl.LogOf(h, l); told == "" || sharesMemory(l[0].Name, told) || sharesMemory(l[0].Name, impl.RecordOf(l[0])) {
		t.Errorf("%q is told in memory of the argument", told)
	}
	first, again := impl.LogRead(log), impl.LogRead(log)
	clear(first)
	if !slices.Equal(again, impl.LogRead(log)) || len(again) != 3 {
		t.Errorf("LogRead tells %+v behind it", again)
	}
}

// TestLogsAreToldAnewEachTime asks for logs over and over, some at a time, and for the same each time.
func TestLogsAreToldAnewEachTime(t *testing.T) {
	var asking sync.WaitGroup
	for range 8 {
		asking.Go(func() {
			for range 20 {
				wantLogOf(t, "all", deskHost(), reqsOf(logTexts...), logWith(logDone...))
				wantLogOf(t, "offers", noAudit(), offers(50), logOfReqs(offers(50)))
				wantLogOf(t, "of no right host", impl.Host{}, offers(50), "")
				wantRecover(t, "all", deskHost(), logWith(logDone...), logHost())
			}
		})
	}
	asking.Wait()
}

// TestNothingRunsOnBehindLogOf: whoever writes is done when the log is told.
func TestNothingRunsOnBehindLogOf(t *testing.T) {
	before := runtime.NumGoroutine()
	for range 50 {
		impl.LogOf(deskHost(), reqsOf(logTexts...))
		impl.LogOf(deskHost(), nil)
		impl.LogOf(impl.Host{}, reqsOf(logTexts...))
		impl.LogOf(deskHost(), make([]impl.Req, mostList+1))
	}
	for range 100 { // one that is done may be counted for a moment yet
		if runtime.NumGoroutine() <= before {
			return
		}
		time.Sleep(10 * time.Millisecond)
	}
	t.Errorf("%d run on, there were %d", runtime.NumGoroutine(), before)
}
