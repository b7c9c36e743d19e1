package impl

import (
	"errors"
	"math"
	"strconv"
)

// Constants, see chapter 1.
const (
	OK        = 0
	ErrForm   = 1
	ErrSize   = 2
	ErrSyntax = 3
	ErrShort  = 4
	ErrSum    = 5
	ErrNone   = 6
	ErrThere  = 7
	ErrRange  = 8
	ErrFull   = 9
	ErrState  = 10
	ErrDenied = 11
	MaxBytes  = 8000
	MaxList   = 400
	MaxTime   = 1000000
)

const (
	groupBits = 7
	groupMore = 1 << groupBits // stands in all bytes of a number but the last one
	lastShift = 9 * groupBits  // where the tenth byte stands: but one bit of 64 is left for it
	crcTurn   = 0xEDB88320
	crcBytes  = 4
	maxName   = 20
)

// readFault tells which code a call answers for bytes that can not be read.
type readFault struct {
	code int64
}

// NumOut is a thing of chapter 2.
type NumOut struct {
	N    int64
	At   int64
	Code int64
}

// TextOut is a thing of chapter 2.
type TextOut struct {
	Text string
	At   int64
	Code int64
}

// Error gives the fault's code in words.
func (f readFault) Error() string {
	return "bytes are refused with code " + strconv.FormatInt(f.code, 10)
}

// PutNum gives the bytes of a number: see chapter 2.
func PutNum(n int64) string {
	var bytes []byte
	u := foldSign(n)
	for u >= groupMore {
		bytes = append(bytes, byte(u)|groupMore)
		u >>= groupBits
	}
	return string(append(bytes, byte(u)))
}

// GetNum reads the number at a place of the text: see chapter 2.
func GetNum(text string, at int64) NumOut {
	n, behind, err := readNum(text, at)
	return NumOut{N: n, At: behind, Code: codeOf(err)}
}

// PutText gives the bytes of a text that fits in: see chapter 2.
func PutText(t string) string {
	if tooLong(t) {
		return ""
	}
	return joined(PutNum(int64(len(t))), t)
}

// GetText reads the text at a place of the text: see chapter 2.
func GetText(text string, at int64) TextOut {
	t, behind, err := readText(text, at)
	return TextOut{Text: t, At: behind, Code: codeOf(err)}
}

// NameRight tells whether t is a name: see chapter 1.
func NameRight(t string) bool {
	if len(t) == 0 || len(t) > maxName || !isLetter(t[0]) {
		return false
	}
	for i := 1; i < len(t); i++ {
		if !isLetter(t[i]) && !isDigit(t[i]) && t[i] != '_' {
			return false
		}
	}
	return true
}

// Crc gives the CRC of a text: see chapter 2.
func Crc(text string) int64 {
	return CrcMore(0, text) // the CRC of no bytes is 0
}

// CrcMore goes on from the CRC of one text to that of it and another one: see chapter 2.
func CrcMore(crc int64, text string) int64 {
	if tooLong(text) || crc < 0 || crc > math.MaxUint32 {
		return 0
	}
	register := ^uint32(crc)
	for i := 0; i < len(text); i++ {
		register = crcByte(register, text[i])
	}
	return int64(^register)
}

// Seal puts its CRC behind a text: see chapter 2.
func Seal(text string) string {
	if len(text) > MaxBytes-crcBytes {
		return ""
	}
	return joined(text, lowFirst(uint32(Crc(text))))
}

// Unseal gives the text that was sealed: see chapter 2.
func Unseal(text string) TextOut {
	if tooLong(text) {
		return TextOut{Code: ErrSize}
	}
	if len(text) < crcBytes {
		return TextOut{Code: ErrShort}
	}
	inner := text[:len(text)-crcBytes]
	if Seal(inner) != text {
		return TextOut{Code: ErrSum}
	}
	return TextOut{Text: joined(inner)}
}

// readNum gives the number at a place, and the place behind it; a fault leaves both at 0.
func readNum(text string, at int64) (int64, int64, error) {
	var (
		u     uint64
		b     byte
		shift uint
		code  int64 = ErrSyntax
	)
	if tooLong(text) {
		return 0, 0, readFault{ErrSize}
	}
	if at < 0 {
		return 0, 0, readFault{ErrForm}
	}
more:
	if at >= int64(len(text)) {
		code = ErrShort
		goto wrong
	}
	b = text[at]
	at++
	if shift == lastShift && b > 1 {
		goto wrong
	}
	u |= uint64(b&^groupMore) << shift
	if b < groupMore {
		goto last
	}
	shift += groupBits
	goto more
last:
	if b == 0 && shift > 0 { // without this byte the number would be the same
		goto wrong
	}
	return unfoldSign(u), at, nil
wrong:
	return 0, 0, readFault{code}
}

// readText gives the text at a place, and the place behind it; a fault leaves both empty.
func readText(text string, at int64) (string, int64, error) {
	size, from, err := readNum(text, at)
	if err != nil {
		return "", 0, err
	}
	if size < 0 || size > MaxBytes {
		return "", 0, readFault{ErrSyntax}
	}
	if size > int64(len(text))-from {
		return "", 0, readFault{ErrShort}
	}
	return joined(text[from : from+size]), from + size, nil
}

// codeOf gives the code that an error of reading bears, and OK where there is none.
func codeOf(err error) int64 {
	var f readFault
	if errors.As(err, &f) {
		return f.code
	}
	return OK
}

// foldSign keeps numbers near 0 small, whatever their sign.
func foldSign(n int64) uint64 {
	u := uint64(n) << 1
	if n < 0 {
		return ^u // -2 times n less 1, which int64 has no room for
	}
	return u
}

// unfoldSign turns foldSign back.
func unfoldSign(u uint64) int64 {
	n := int64(u >> 1)
	if u&1 == 1 {
		return ^n
	}
	return n
}

// crcByte shifts the eight bits of a byte through the register.
func crcByte(register uint32, b byte) uint32 {
	for bit := 0; bit < 8; bit++ {
		odd := (register^uint32(b>>bit))&1 == 1
		register >>= 1
		if odd {
			register ^= crcTurn
		}
	}
	return register
}

// lowFirst gives the four bytes of a CRC.
func lowFirst(crc uint32) string {
	var bytes [crcBytes]byte
	for i := range bytes {
		bytes[i] = byte(crc >> (8 * i))
	}
	return string(bytes[:])
}

// joined puts texts together in new memory, so that an answer shares none with an argument.
func joined(texts ...string) string {
	size := 0
	for _, t := range texts {
		size += len(t)
	}
	bytes := make([]byte, size)
	at := 0
	for _, t := range texts {
		at += copy(bytes[at:], t)
	}
	return string(bytes)
}

func tooLong(text string) bool {
	return len(text) > MaxBytes
}

func isLetter(b byte) bool {
	return b >= 'a' && b <= 'z'
}

func isDigit(b byte) bool {
	return b >= '0' && b <= '9'
}
