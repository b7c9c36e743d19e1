package tests

import (
	"math"
	"strconv"
	"testing"

	"loop.example/g00755/impl"
)

const (
	badRange = 8
	mostRows = 20
	mostCols = 6
	columns  = "abcdef"
)

// someFlights are the right flights of all sizes.
func someFlights() []impl.Flight {
	var l []impl.Flight
	for rows := int64(1); rows <= mostRows; rows++ {
		for cols := int64(1); cols <= mostCols; cols++ {
			l = append(l, impl.Flight{Name: "ab1", Rows: rows, Cols: cols})
		}
	}
	return l
}

// wrongFlights have each one fault, or more than one.
func wrongFlights() []impl.Flight {
	l := []impl.Flight{{}, {Rows: 2, Cols: 3}, {Name: "Ab", Rows: 2, Cols: 3}, {Name: "ab ", Rows: 2, Cols: 3},
		{Name: rep("a", 9), Rows: 2, Cols: 3}, {Name: rep("a", limit+1), Rows: 2, Cols: 3}, {Name: "ab"}, {Name: "a b", Rows: 21, Cols: 7}}
	for _, n := range []int64{math.MinInt64, -1, 0, math.MaxInt64} {
		l = append(l, impl.Flight{Name: "ab", Rows: n, Cols: 3}, impl.Flight{Name: "ab", Rows: 2, Cols: n})
	}
	return append(l, impl.Flight{Name: "ab", Rows: mostRows + 1, Cols: 3}, impl.Flight{Name: "ab", Rows: 2, Cols: mostCols + 1},
		impl.Flight{Name: "ab", Rows: -2, Cols: -3}, impl.Flight{Name: "ab", Rows: 1 << 32, Cols: 1 << 32})
}

// rightSeats are all seats that any flight may have, row by row.
func rightSeats() []impl.Seat {
	var l []impl.Seat
	for row := int64(1); row <= mostRows; row++ {
		for col := int64(0); col < mostCols; col++ {
			l = append(l, impl.Seat{Row: row, Col: col})
		}
	}
	return l
}

// wrongSeats are seats that no flight has.
func wrongSeats() []impl.Seat {
	l := []impl.Seat{{}, {Row: 0, Col: 5}, {Row: mostRows + 1, Col: mostCols}, {Row: -1, Col: -1}}
	for _, n := range []int64{math.MinInt64, -1, 0, mostRows + 1, 1<<32 + 1, math.MaxInt64} {
		l = append(l, impl.Seat{Row: n, Col: 0})
	}
	for _, n := range []int64{math.MinInt64, -1, mostCols, mostCols + 1, 256, 1 << 32, math.MaxInt64} {
		l = append(l, impl.Seat{Row: 1, Col: n})
	}
	return l
}

// writtenSeat is SeatText told in another way.
func writtenSeat(s impl.Seat) string {
	return strconv.Itoa(int(s.Row)) + columns[s.Col:s.Col+1]
}

func wantSeatAt(t *testing.T, f impl.Flight, n int64, want impl.SeatOut) {
	t.Helper()
	if got := impl.SeatAt(f, n); got != want {
		t.Errorf("SeatAt(%s %d %d, %d): got %+v, want %+v", shown(f.Name), f.Rows, f.Cols, n, got, want)
	}
}

func wantSeatNo(t *testing.T, f impl.Flight, s impl.Seat, want int64) {
	t.Helper()
	if got := impl.SeatNo(f, s); got != want {
		t.Errorf("SeatNo(%s %d %d, %+v): got %d, want %d", shown(f.Name), f.Rows, f.Cols, s, got, want)
	}
}

func wantSeatRead(t *testing.T, text string, want impl.SeatOut) {
	t.Helper()
	if got := impl.SeatRead(text); got != want {
		t.Errorf("SeatRead(%s): got %+v, want %+v", shown(text), got, want)
	}
}

func TestSeatLimits(t *testing.T) {
	if impl.MaxRows != mostRows || impl.MaxCols != mostCols {
		t.Errorf("MaxRows %d, MaxCols %d, want %d, %d", impl.MaxRows, impl.MaxCols, mostRows, mostCols)
	}
}

func TestWordRight(t *testing.T) {
	for _, word := range []string{"a", "z", "0", "9", "00000000", "ab1", "1ab", rep("a", 8), rep("z", 7) + "9"} {
		if !impl.WordRight(word) {
			t.Errorf("%q is a word", word)
		}
	}
	for _, text := range []string{"", rep("a", 9), rep("1", 20), rep("a", limit), rep("a", limit+1), " ", " a", "a ", "a b", "a\n", "a_b", "aé"} {
		if impl.WordRight(text) {
			t.Errorf("%s is no word", shown(text))
		}
	}
	for b := 0; b < 256; b++ {
		c := byte(b)
		fits := c >= 'a' && c <= 'z' || c >= '0' && c <= '9'
		for _, text := range []string{string([]byte{c}), string([]byte{c, 'a', 'b'}), string([]byte{'1', c, 'b'}), string([]byte{'a', '1', c}), rep("a", 7) + string([]byte{c})} {
			if got := impl.WordRight(text); got != fits {
				t.Errorf("WordRight(%s): got %v", shown(text), got)
			}
		}
	}
}

func TestFlightRight(t *testing.T) {
	for _, f := range append(someFlights(), impl.Flight{Name: "1", Rows: 1, Cols: 1}, impl.Flight{Name: rep("z", 8), Rows: mostRows, Cols: mostCols}) {
		if !impl.FlightRight(f) {
			t.Errorf("%+v is right", f)
		}
	}
	for _, f := range wrongFlights() {
		if impl.FlightRight(f) {
			t.Errorf("%s %d %d is not right", shown(f.Name), f.Rows, f.Cols)
		}
	}
}

func TestSeatRight(t *testing.T) {
	for _, s := range rightSeats() {
		if !impl.SeatRight(s) {
			t.Errorf("%+v is right", s)
		}
	}
	for _, s := range wrongSeats() {
		if impl.SeatRight(s) {
			t.Errorf("%+v is not right", s)
		}
	}
}

func TestSeatIn(t *testing.T) {
	for _, f := range someFlights() {
		for _, s := range rightSeats() {
			if got, want := impl.SeatIn(f, s), s.Row <= f.Rows && s.Col <= f.Cols-1; got != want {
				t.Errorf("SeatIn(%+v, %+v): got %v", f, s, got)
			}
		}
		for _, s := range wrongSeats() {
			if impl.SeatIn(f, s) {
				t.Errorf("SeatIn(%+v, %+v): a seat that is not right", f, s)
			}
		}
	}
	for _, f := range wrongFlights() {
		for _, s := range append(wrongSeats(), impl.Seat{Row: 1}, impl.Seat{Row: 2, Col: 2}) {
			if impl.SeatIn(f, s) {
				t.Errorf("SeatIn(%s %d %d, %+v): a flight that is not right", shown(f.Name), f.Rows, f.Cols, s)
			}
		}
	}
}

// TestEachSeatHasANumberOfItsOwn counts the seats of every flight on, row by row.
func TestEachSeatHasANumberOfItsOwn(t *testing.T) {
	for _, f := range someFlights() {
		next := int64(0)
		for _, s := range rightSeats() {
			if s.Row > f.Rows || s.Col >= f.Cols {
				wantSeatNo(t, f, s, -1)
				continue
			}
			wantSeatNo(t, f, s, next)
			wantSeatAt(t, f, next, impl.SeatOut{Seat: s})
			next++
		}
		if next != f.Rows*f.Cols {
			t.Errorf("%+v: %d seats were gone through", f, next)
		}
	}
}

func TestTheFirstAndTheLastSeat(t *testing.T) {
	for _, c := range []struct {
		f    impl.Flight
		n    int64
		seat impl.Seat
	}{
		{impl.Flight{Name: "a", Rows: 1, Cols: 1}, 0, impl.Seat{Row: 1}},
		{impl.Flight{Name: "ab1", Rows: 2, Cols: 3}, 0, impl.Seat{Row: 1}},
		{impl.Flight{Name: "ab1", Rows: 2, Cols: 3}, 2, impl.Seat{Row: 1, Col: 2}},
		{impl.Flight{Name: "ab1", Rows: 2, Cols: 3}, 3, impl.Seat{Row: 2}},
		{impl.Flight{Name: "ab1", Rows: 2, Cols: 3}, 5, impl.Seat{Row: 2, Col: 2}},
		{impl.Flight{Name: "zz", Rows: 20, Cols: 1}, 19, impl.Seat{Row: 20}},
		{impl.Flight{Name: "zz", Rows: 1, Cols: 6}, 5, impl.Seat{Row: 1, Col: 5}},
		{impl.Flight{Name: "zz", Rows: 20, Cols: 6}, 119, impl.Seat{Row: 20, Col: 5}},
	} {
		wantSeatNo(t, c.f, c.seat, c.n)
		wantSeatAt(t, c.f, c.n, impl.SeatOut{Seat: c.seat})
	}
}

func TestSeatNoOfNoSeat(t *testing.T) {
	for _, f := range append(someFlights()[:3], impl.Flight{Name: "zz", Rows: mostRows, Cols: mostCols}) {
		for _, s := range wrongSeats() {
			wantSeatNo(t, f, s, -1)
		}
	}
	for _, f := range wrongFlights() {
		wantSeatNo(t, f, impl.Seat{Row: 1}, -1)
		wantSeatNo(t, f, impl.Seat{}, -1)
	}
}

func TestSeatAtRefuses(t *testing.T) {
	for _, f := range someFlights() {
		for _, n := range []int64{math.MinInt64, -120, -1, f.Rows * f.Cols, f.Rows*f.Cols + 1, 1 << 32, math.MaxInt64} {
			wantSeatAt(t, f, n, impl.SeatOut{Code: badRange})
		}
	}
	for _, f := range wrongFlights() {
		for _, n := range []int64{-1, 0, 1, 120, math.MaxInt64} {
			wantSeatAt(t, f, n, impl.SeatOut{Code: badForm})
		}
	}
}

func TestSeatsComeBackFromTheirTexts(t *testing.T) {
	seen := map[string]bool{}
	for _, s := range rightSeats() {
		text := impl.SeatText(s)
		if text != writtenSeat(s) {
			t.Errorf("SeatText(%+v): got %q, want %q", s, text, writtenSeat(s))
		}
		wantSeatRead(t, text, impl.SeatOut{Seat: s})
		seen[text] = true
	}
	if len(seen) != mostRows*mostCols {
		t.Errorf("%d texts, want %d", len(seen), mostRows*mostCols)
	}
}

func TestSeatTextOfNoRightSeat(t *testing.T) {
	for _, s := range wrongSeats() {
		if got := impl.SeatText(s); got != "" {
			t.Errorf("SeatText(%+v): got %q", s, got)
		}
	}
}

func TestSeatReadRefuses(t *testing.T) {
	for _, c := range []struct {
		what string
		text string
		code int64
	}{
		{"the empty text", "", badSyntax},
		{"a letter alone", "a", badSyntax},
		{"a row alone", "1", badSyntax},
		{"a row of two digits alone", "12", badSyntax},
		{"a row of 0", "0a", badSyntax},
		{"a row of one above the most", "21a", badSyntax},
		{"a row far above the most", "99999999999999999999999a", badSyntax},
		{"a row of 2^64 and 1", "18446744073709551617a", badSyntax},
		{"a nought ahead", "01a", badSyntax},
		{"a nought ahead of two digits", "012c", badSyntax},
		{"noughts ahead", "0001a", badSyntax},
		{"two noughts", "00a", badSyntax},
		{"a plus sign", "+1a", badSyntax},
		{"a minus sign", "-1a", badSyntax},
		{"a minus sign ahead of 0", "-0a", badSyntax},
		{"a sign alone", "+a", badSyntax},
		{"a line below between digits", "1_2a", badSyntax},
		{"a number in hexadecimal", "0x1a", badSyntax},
		{"a point", "1.0a", badSyntax},
		{"the letter behind the last column's", "1g", badSyntax},
		{"the byte ahead of the first column's", "1`", badSyntax},
		{"a letter in upper case", "1A", badSyntax},
		{"a nought byte for a letter", "1\x00", badSyntax},
		{"two letters", "1ab", badSyntax},
		{"the letter ahead", "a1", badSyntax},
		{"a byte behind", "12c ", badSyntax},
		{"a line feed behind", "12c\n", badSyntax},
		{"a digit behind", "1a1", badSyntax},
		{"a nought byte behind", "1a\x00", badSyntax},
		{"a seat behind", "1a1a", badSyntax},
		{"a blank ahead", " 1a", badSyntax},
		{"a blank between", "1 a", badSyntax},
		{"digits of another script", "\xd9\xa1a", badSyntax},
		{"a text of the limit", rep("0", limit-2) + "1a", badSyntax},
		{"a text of one byte more", rep("0", limit-1) + "1a", badSize},
		{"a text of more than the limit that begins with a seat", "1a" + rep(" ", limit), badSize},
	} {
		t.Run(c.what, func(t *testing.T) {
			wantSeatRead(t, c.text, impl.SeatOut{Code: c.code})
		})
	}
}

// TestSeatReadOfAnyShortText holds SeatRead against the list of all texts that a right seat has.
func TestSeatReadOfAnyShortText(t *testing.T) {
	seats := map[string]impl.Seat{}
	for _, s := range rightSeats() {
		seats[writtenSeat(s)] = s
	}
	const bytes = "0129+-_abfgA \x00\xff"
	var try func(text string)
	try = func(text string) {
		want := impl.SeatOut{Code: badSyntax}
		if s, in := seats[text]; in {
			want = impl.SeatOut{Seat: s}
		}
		wantSeatRead(t, text, want)
		for i := 0; len(text) < 4 && i < len(bytes); i++ {
			try(text + bytes[i:i+1])
		}
	}
	try("")
}
