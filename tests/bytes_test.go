package tests

import (
	"encoding/binary"
	"hash/crc32"
	"math"
	"math/rand"
	"strings"
	"testing"
	"unsafe"

	"loop.example/g00755/impl"
)

// The limit and the codes stand here as numbers, so that a constant that is changed is noticed.
const (
	ok        = 0
	badForm   = 1
	badSize   = 2
	badSyntax = 3
	tooShort  = 4
	badSum    = 5
	limit     = 8000
)

// rep writes out one byte n times.
func rep(b string, n int) string {
	return strings.Repeat(b, n)
}

// numberBytes is PutNum as encoding/binary writes it.
func numberBytes(n int64) string {
	return string(binary.AppendVarint(nil, n))
}

// someNumbers are both ends of int64, the numbers around each change of length, and some by chance.
func someNumbers() []int64 {
	l := []int64{0, 1, -1, 2, -2, math.MaxInt64, math.MinInt64, math.MaxInt64 - 1, math.MinInt64 + 1}
	for bits := 0; bits < 63; bits++ {
		p := int64(1) << bits
		l = append(l, p-1, p, p+1, -p+1, -p, -p-1)
	}
	r := rand.New(rand.NewSource(1))
	for i := 0; i < 2000; i++ {
		n := int64(r.Uint64() >> r.Intn(64))
		l = append(l, n, -n)
	}
	return l
}

func wantNum(t *testing.T, text string, at int64, want impl.NumOut) {
	t.Helper()
	if got := impl.GetNum(text, at); got != want {
		t.Errorf("GetNum(%s, %d): got %+v, want %+v", shown(text), at, got, want)
	}
}

func wantText(t *testing.T, text string, at int64, want impl.TextOut) {
	t.Helper()
	if got := impl.GetText(text, at); got != want {
		t.Errorf("GetText(%s, %d): got %s, %d, code %d, want %s, %d, code %d", shown(text), at,
			shown(got.Text), got.At, got.Code, shown(want.Text), want.At, want.Code)
	}
}

func wantUnsealed(t *testing.T, text string, want impl.TextOut) {
	t.Helper()
	if got := impl.Unseal(text); got != want {
		t.Errorf("Unseal(%s): got %s, %d, code %d, want %s, %d, code %d", shown(text),
			shown(got.Text), got.At, got.Code, shown(want.Text), want.At, want.Code)
	}
}

// shown keeps what a test tells of a text short.
func shown(text string) string {
	const digits = "0123456789abcdef"
	var b strings.Builder
	for i := 0; i < len(text) && i < 24; i++ {
		b.WriteString(string([]byte{digits[text[i]>>4], digits[text[i]&15], ' '}))
	}
	if len(text) > 24 {
		b.WriteString("..")
	}
	return "[" + strings.TrimSpace(b.String()) + "]"
}

// sharesMemory tells whether the bytes of part stand within those of whole.
func sharesMemory(part, whole string) bool {
	p := uintptr(unsafe.Pointer(unsafe.StringData(part)))
	w := uintptr(unsafe.Pointer(unsafe.StringData(whole)))
	return p < w+uintptr(len(whole)) && w < p+uintptr(len(part))
}

func TestCodesAndLimits(t *testing.T) {
	got := []int64{impl.OK, impl.ErrForm, impl.ErrSize, impl.ErrSyntax, impl.ErrShort, impl.ErrSum, impl.ErrNone,
		impl.ErrThere, impl.ErrRange, impl.ErrFull, impl.ErrState, impl.ErrDenied, impl.MaxBytes, impl.MaxList, impl.MaxTime}
	want := []int64{ok, badForm, badSize, badSyntax, tooShort, badSum, 6, 7, 8, 9, 10, 11, limit, 400, 1000000}
	for i := range want {
		if got[i] != want[i] {
			t.Errorf("constant %d: got %d, want %d", i, got[i], want[i])
		}
	}
}

func TestPutNumWritesAsFewBytesAsMayBe(t *testing.T) {
	for _, c := range []struct {
		n    int64
		want string
	}{
		{0, "\x00"}, {-1, "\x01"}, {1, "\x02"}, {-2, "\x03"}, {63, "\x7e"}, {-64, "\x7f"},
		{64, "\x80\x01"}, {-65, "\x81\x01"}, {8191, "\xfe\x7f"}, {-8192, "\xff\x7f"}, {8192, "\x80\x80\x01"},
		{1<<62 - 1, "\xfe" + rep("\xff", 7) + "\x7f"}, {1 << 62, rep("\x80", 9) + "\x01"},
		{math.MaxInt64, "\xfe" + rep("\xff", 8) + "\x01"}, {math.MinInt64, rep("\xff", 9) + "\x01"},
	} {
		if got := impl.PutNum(c.n); got != c.want {
			t.Errorf("PutNum(%d): got %s, want %s", c.n, shown(got), shown(c.want))
		}
	}
	for _, n := range someNumbers() {
		if got := impl.PutNum(n); got != numberBytes(n) {
			t.Errorf("PutNum(%d): got %s, want %s", n, shown(got), shown(numberBytes(n)))
		}
	}
}

func TestNumbersComeBack(t *testing.T) {
	lengths := map[int]bool{}
	for _, n := range someNumbers() {
		bytes := impl.PutNum(n)
		size := int64(len(bytes))
		lengths[len(bytes)] = true
		wantNum(t, bytes, 0, impl.NumOut{N: n, At: size})
		wantNum(t, bytes+"\xff\x00", 0, impl.NumOut{N: n, At: size})
		wantNum(t, "\xff\x80\x00"+bytes, 3, impl.NumOut{N: n, At: size + 3})
		for cut := 0; cut < len(bytes); cut++ {
			wantNum(t, bytes[:cut], 0, impl.NumOut{Code: tooShort})
		}
	}
	for size := 1; size <= 10; size++ {
		if !lengths[size] {
			t.Errorf("no number of %d bytes was tried", size)
		}
	}
}

func TestNumbersStandOneBehindTheOther(t *testing.T) {
	l := someNumbers()[:600]
	text := ""
	for _, n := range l {
		text += impl.PutNum(n)
	}
	at := int64(0)
	for _, n := range l {
		got := impl.GetNum(text, at)
		if got.N != n || got.Code != ok {
			t.Fatalf("at %d: got %+v, want %d", at, got, n)
		}
		at = got.At
	}
	if at != int64(len(text)) {
		t.Errorf("the last place is %d, want %d", at, len(text))
	}
}

func TestGetNumRefuses(t *testing.T) {
	nine := rep("\x80", 9)
	for _, c := range []struct {
		what string
		text string
		at   int64
		code int64
	}{
		{"a place below 0", "\x00", -1, badForm},
		{"a place below 0 of no text", "", -1, badForm},
		{"the least place", "\x00", math.MinInt64, badForm},
		{"no text", "", 0, tooShort},
		{"a place at the end", "\x02", 1, tooShort},
		{"a place behind the end", "\x02", 2, tooShort},
		{"the greatest place", "\x02", math.MaxInt64, tooShort},
		{"no last byte", "\x80", 0, tooShort},
		{"no last byte behind another number", "\x02\xff\xff", 1, tooShort},
		{"nine bytes, none the last", nine, 0, tooShort},
		{"nine full bytes, none the last", rep("\xff", 9), 0, tooShort},
		{"one byte more than is needed", "\x80\x00", 0, badSyntax},
		{"one byte more than -1 needs", "\x81\x00", 0, badSyntax},
		{"two bytes more than are needed", "\xff\x80\x00", 0, badSyntax},
		{"a tenth byte that is not needed", nine + "\x00", 0, badSyntax},
		{"a tenth byte of 2", nine + "\x02", 0, badSyntax},
		{"a tenth byte of 3", rep("\xff", 9) + "\x03", 0, badSyntax},
		{"a tenth byte of 127", nine + "\x7f", 0, badSyntax},
		{"a tenth byte of 128", nine + "\x80", 0, badSyntax},
		{"a tenth byte of 129", nine + "\x81", 0, badSyntax},
		{"a tenth byte of 255", nine + "\xff", 0, badSyntax},
		{"eleven bytes", nine + "\x80\x01", 0, badSyntax},
		{"more bytes than are needed, further on", "ab\x80\x00", 2, badSyntax},
		{"a text of more than the limit", rep("\x00", limit+1), 0, badSize},
		{"such a text, and a place below 0", rep("\x00", limit+1), -1, badSize},
		{"such a text, and a place behind it", rep("\x00", limit+1), limit + 5, badSize},
		{"such a text of no number", rep("\xff", limit+1), 0, badSize},
	} {
		t.Run(c.what, func(t *testing.T) {
			wantNum(t, c.text, c.at, impl.NumOut{Code: c.code})
		})
	}
}

func TestGetNumReadsUpToTheLimit(t *testing.T) {
	text := rep("\x00", limit-1) + "\x03"
	wantNum(t, text, limit-1, impl.NumOut{N: -2, At: limit})
	wantNum(t, text, limit, impl.NumOut{Code: tooShort})
}

// TestGetNumOfAnyBytes holds GetNum against what encoding/binary makes of the same bytes.
func TestGetNumOfAnyBytes(t *testing.T) {
	r := rand.New(rand.NewSource(2))
	tail := []byte{0, 1, 2, 127, 128, 129, 255}
	for i := 0; i < 20000; i++ {
		b := make([]byte, r.Intn(13))
		for j := range b {
			b[j] = tail[r.Intn(len(tail))]
			if r.Intn(3) > 0 {
				b[j] |= 128
			}
		}
		wantNum(t, string(b), 0, numberOf(b))
	}
}

// numberOf is GetNum at place 0 told by encoding/binary.
func numberOf(b []byte) impl.NumOut {
	n, size := binary.Varint(b)
	if size == 0 && len(b) < 10 {
		return impl.NumOut{Code: tooShort}
	}
	if size <= 0 || numberBytes(n) != string(b[:size]) {
		return impl.NumOut{Code: badSyntax}
	}
	return impl.NumOut{N: n, At: int64(size)}
}

func TestTextsComeBack(t *testing.T) {
	for _, s := range []string{"", "a", "\x00", "\xff\x80", "a seat, é", rep("x", 63), rep("x", 64), rep("\x80", 200)} {
		bytes := impl.PutText(s)
		if bytes != numberBytes(int64(len(s)))+s {
			t.Errorf("PutText(%s): got %s", shown(s), shown(bytes))
		}
		size := int64(len(bytes))
		wantText(t, bytes, 0, impl.TextOut{Text: s, At: size})
		wantText(t, bytes+"\x80", 0, impl.TextOut{Text: s, At: size})
		wantText(t, "\x05\x80"+bytes+"b", 2, impl.TextOut{Text: s, At: size + 2})
		for cut := 0; cut < len(bytes); cut++ {
			wantText(t, bytes[:cut], 0, impl.TextOut{Code: tooShort})
		}
	}
}

func TestTextsStandOneBehindTheOther(t *testing.T) {
	l := []string{"one", "", rep("y", 100), "\x80", ""}
	text := ""
	for _, s := range l {
		text += impl.PutText(s)
	}
	at := int64(0)
	for _, s := range l {
		got := impl.GetText(text, at)
		if got.Text != s || got.Code != ok {
			t.Fatalf("at %d: got %+v, want %s", at, got, shown(s))
		}
		at = got.At
	}
	wantText(t, text, at, impl.TextOut{Code: tooShort})
}

func TestPutTextUpToTheLimit(t *testing.T) {
	if got := impl.PutText(rep("z", limit)); got != numberBytes(limit)+rep("z", limit) {
		t.Errorf("a text of the limit gives %d bytes", len(got))
	}
	if got := impl.PutText(rep("z", limit+1)); got != "" {
		t.Errorf("a text of one byte more gives %d bytes", len(got))
	}
	fits := rep("z", limit-2)
	wantText(t, impl.PutText(fits), 0, impl.TextOut{Text: fits, At: limit})
	wantText(t, impl.PutText(fits+"z"), 0, impl.TextOut{Code: badSize})
	wantText(t, "ab"+impl.PutText(fits[2:]), 2, impl.TextOut{Text: fits[2:], At: limit})
}

func TestGetTextRefuses(t *testing.T) {
	for _, c := range []struct {
		what string
		text string
		at   int64
		code int64
	}{
		{"a place below 0", "\x02a", -1, badForm},
		{"the least place", "\x02a", math.MinInt64, badForm},
		{"no text", "", 0, tooShort},
		{"a place at the end", "\x02a", 2, tooShort},
		{"a place behind the end", "\x02a", 3, tooShort},
		{"the greatest place", "\x02a", math.MaxInt64, tooShort},
		{"a length that ends too early", "\x80", 0, tooShort},
		{"a length of nine bytes without an end", rep("\x80", 9), 0, tooShort},
		{"a length with more bytes than are needed", "\x82\x00a", 0, badSyntax},
		{"a length with a tenth byte above 1", rep("\x80", 9) + "\x02", 0, badSyntax},
		{"a length of -1", "\x01a", 0, badSyntax},
		{"a length of -1 at the end", "a\x01", 1, badSyntax},
		{"the least length", impl.PutNum(math.MinInt64) + "a", 0, badSyntax},
		{"a length of one above the limit", numberBytes(limit+1) + rep("a", 40), 0, badSyntax},
		{"a length of one above the limit, and as much as may be", numberBytes(limit+1) + rep("a", limit-2), 0, badSyntax},
		{"the greatest length", impl.PutNum(math.MaxInt64) + "a", 0, badSyntax},
		{"a length of the limit, and no bytes", numberBytes(limit), 0, tooShort},
		{"a length of the limit, and too few bytes", numberBytes(limit) + rep("a", limit-2), 0, tooShort},
		{"a length of one more than there is", "\x04a", 0, tooShort},
		{"a text of more than the limit", "\x02a" + rep("a", limit), 0, badSize},
		{"such a text, and a place below 0", "\x02a" + rep("a", limit), -1, badSize},
		{"such a text, and a wrong length", "\x01" + rep("a", limit), 0, badSize},
	} {
		t.Run(c.what, func(t *testing.T) {
			wantText(t, c.text, c.at, impl.TextOut{Code: c.code})
		})
	}
}

func TestNameRight(t *testing.T) {
	for _, name := range []string{"a", "z", "a_9", "az09_", "m0", "b_", "a" + rep("_", 19), rep("z", 20), "a" + rep("0", 18) + "9"} {
		if !impl.NameRight(name) {
			t.Errorf("%q is a name", name)
		}
	}
	for _, text := range []string{"", "_a", "0a", "9", "_", rep("a", 21), rep("a", limit+1), " a", "a ", "a\n", "A", "aA", "a-b", "a.b", "a`", "a{", "é", "aé", "a\x00"} {
		if impl.NameRight(text) {
			t.Errorf("%q is no name", shown(text))
		}
	}
	for b := 0; b < 256; b++ {
		c := byte(b)
		letter := c >= 'a' && c <= 'z'
		if got := impl.NameRight(string([]byte{c})); got != letter {
			t.Errorf("first byte %d: got %v", b, got)
		}
		inner := letter || c >= '0' && c <= '9' || c == '_'
		if got := impl.NameRight(string([]byte{'a', c, 'b'})); got != inner {
			t.Errorf("inner byte %d: got %v", b, got)
		}
	}
}

func someTexts() []string {
	l := []string{"", "\x00", "\xff", "a", "123456789", rep("\x00", 4), rep("\xff", 4), rep("ab\x80", 900), rep("q", limit)}
	r := rand.New(rand.NewSource(3))
	for i := 0; i < 200; i++ {
		b := make([]byte, r.Intn(70))
		r.Read(b)
		l = append(l, string(b))
	}
	return l
}

func TestCrc(t *testing.T) {
	if got := impl.Crc("123456789"); got != 0xCBF43926 {
		t.Errorf("the CRC of 123456789 is %d", got)
	}
	for _, s := range someTexts() {
		if got, want := impl.Crc(s), int64(crc32.ChecksumIEEE([]byte(s))); got != want {
			t.Errorf("Crc(%s): got %d, want %d", shown(s), got, want)
		}
	}
	if got := impl.Crc(rep("q", limit+1)); got != 0 {
		t.Errorf("of one byte more than the limit: got %d", got)
	}
}

func TestCrcGoesOnFromTextToText(t *testing.T) {
	for _, s := range someTexts() {
		whole := impl.Crc(s)
		if got := impl.CrcMore(impl.Crc(""), s); got != whole {
			t.Errorf("behind no text %s: got %d, want %d", shown(s), got, whole)
		}
		for cut := 0; cut <= len(s); cut += 1 + len(s)/80 {
			if got := impl.CrcMore(impl.Crc(s[:cut]), s[cut:]); got != whole {
				t.Errorf("%s cut at %d: got %d, want %d", shown(s), cut, got, whole)
			}
		}
	}
	crc := int64(0)
	for i := 0; i < 5; i++ {
		crc = impl.CrcMore(crc, rep("w", limit))
	}
	if want := int64(crc32.ChecksumIEEE([]byte(rep("w", 5*limit)))); crc != want {
		t.Errorf("of more than the limit, piece by piece: got %d, want %d", crc, want)
	}
}

func TestCrcMoreAtItsEdges(t *testing.T) {
	const top = 1<<32 - 1
	for _, crc := range []int64{0, 1, top - 1, top} {
		if got := impl.CrcMore(crc, ""); got != crc {
			t.Errorf("no text behind %d: got %d", crc, got)
		}
		want := int64(crc32.Update(uint32(crc), crc32.IEEETable, []byte("ab")))
		if got := impl.CrcMore(crc, "ab"); got != want {
			t.Errorf("ab behind %d: got %d, want %d", crc, got, want)
		}
		if got := impl.CrcMore(crc, rep("a", limit+1)); got != 0 {
			t.Errorf("a text of more than the limit behind %d: got %d", crc, got)
		}
	}
	for _, crc := range []int64{-1, math.MinInt64, top + 1, top + 2, math.MaxInt64} {
		for _, text := range []string{"", "ab"} {
			if got := impl.CrcMore(crc, text); got != 0 {
				t.Errorf("%q behind %d, which is no CRC: got %d", text, crc, got)
			}
		}
	}
}

func TestSealedTextsComeBack(t *testing.T) {
	for _, s := range append(someTexts(), rep("s", limit-4)) {
		if len(s) > limit-4 {
			continue
		}
		want := string(binary.LittleEndian.AppendUint32([]byte(s), crc32.ChecksumIEEE([]byte(s))))
		if got := impl.Seal(s); got != want {
			t.Errorf("Seal(%s): got %s, want %s", shown(s), shown(got), shown(want))
		}
		wantUnsealed(t, want, impl.TextOut{Text: s})
		if s != "" {
			wantUnsealed(t, want[1:], impl.TextOut{Code: unsealFault(want[1:])})
			wantUnsealed(t, want[:len(want)-1], impl.TextOut{Code: unsealFault(want[:len(want)-1])})
		}
	}
}

// unsealFault tells what Unseal says of a text that is no Seal.
func unsealFault(text string) int64 {
	if len(text) < 4 {
		return tooShort
	}
	return badSum
}

func TestSealUpToTheLimit(t *testing.T) {
	most := rep("s", limit-4)
	if got := impl.Seal(most); len(got) != limit {
		t.Errorf("of the most bytes: got %d", len(got))
	}
	for _, n := range []int{limit - 3, limit - 2, limit - 1, limit, limit + 1} {
		if got := impl.Seal(rep("s", n)); got != "" {
			t.Errorf("of %d bytes: got %d", n, len(got))
		}
	}
}

func TestUnsealRefuses(t *testing.T) {
	long := rep("s", limit-3)
	sealedLong := string(binary.LittleEndian.AppendUint32([]byte(long), crc32.ChecksumIEEE([]byte(long))))
	sealed := "ab" + impl.Seal("ab")[2:]
	for _, c := range []struct {
		what string
		text string
		code int64
	}{
		{"no bytes", "", tooShort},
		{"one byte", "\x00", tooShort},
		{"three bytes", "\x00\x00\x00", tooShort},
		{"four bytes that are no CRC of none", "\x00\x00\x00\x01", badSum},
		{"four bytes, all ones", "\xff\xff\xff\xff", badSum},
		{"the highest byte of the CRC first", "ab" + sealed[5:] + sealed[4:5] + sealed[3:4] + sealed[2:3], badSum},
		{"two bytes of the text changed round", "ba" + sealed[2:], badSum},
		{"a byte behind the seal", sealed + "\x00", badSum},
		{"a byte ahead of the text", "\x00" + sealed, badSum},
		{"a seal of more than the limit", sealedLong, badSize},
		{"a text of more than the limit", rep("\x00", limit+1), badSize},
	} {
		t.Run(c.what, func(t *testing.T) {
			wantUnsealed(t, c.text, impl.TextOut{Code: c.code})
		})
	}
	wantUnsealed(t, "\x00\x00\x00\x00", impl.TextOut{})
}

func TestSealWithOneByteTurnedIsRefused(t *testing.T) {
	for _, s := range []string{"", "a", "ab", "name 7 1.1 ann", rep("\x00", 30)} {
		sealed := []byte(impl.Seal(s))
		for at := range sealed {
			for turn := 1; turn < 256; turn++ {
				sealed[at] ^= byte(turn)
				wantUnsealed(t, string(sealed), impl.TextOut{Code: badSum})
				sealed[at] ^= byte(turn)
			}
		}
	}
	most := []byte(impl.Seal(rep("s", limit-4)))
	for at := 0; at < len(most); at += 333 {
		most[at] ^= 16
		wantUnsealed(t, string(most), impl.TextOut{Code: badSum})
		most[at] ^= 16
	}
}

func TestTextsThatAreToldAreNewMemory(t *testing.T) {
	text := impl.PutText(rep("k", 300))
	if sharesMemory(impl.GetText(text, 0).Text, text) {
		t.Error("GetText gives out memory of its argument")
	}
	sealed := impl.Seal(rep("k", 300))
	if sharesMemory(impl.Unseal(sealed).Text, sealed) {
		t.Error("Unseal gives out memory of its argument")
	}
}
