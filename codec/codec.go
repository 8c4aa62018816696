// Package codec: sums, numbers and texts in bytes: see DOC.md, layer 1.
package codec

import (
	"bytes"

	"caesura/api"
)

// polynomial is that of the CRC-32, its bits in turned order: the register goes to the right.
const polynomial = 0xEDB88320

// halves says for each value of the register's lowest four bits what four steps of one bit each make of them.
var halves = makeHalves()

func makeHalves() [16]uint32 {
	var table [16]uint32
	for i := range table {
		table[i] = fourSteps(uint32(i))
	}
	return table
}

func fourSteps(register uint32) uint32 {
	for range 4 {
		fallen := register & 1
		register >>= 1
		if fallen == 1 {
			register ^= polynomial
		}
	}
	return register
}

// Crc is the CRC-32 of p.
func Crc(p []byte) uint32 {
	// The sum of no bytes is 0: turned, it is the register with all bits 1.
	return CrcMore(0, p)
}

// CrcMore goes on with a sum: CrcMore(Crc(a), b) is the sum of a and b.
func CrcMore(sum uint32, p []byte) uint32 {
	register := ^sum
	for _, b := range p {
		register ^= uint32(b)
		register = register>>4 ^ halves[register&15]
		register = register>>4 ^ halves[register&15]
	}
	return ^register
}

// A number is written in groups of so many bits; nine groups hold all 63 bits that one may have.
const (
	groupBits = 7
	groupMask = 1<<groupBits - 1
	follows   = 1 << groupBits
	maxGroups = 9
)

// Writer gathers bytes.
type Writer struct {
	bytes.Buffer
}

// NewWriter is a writer that has none.
func NewWriter() *Writer { return &Writer{} }

// Num writes a number that is not below 0, in as many bytes as it takes.
func (w *Writer) Num(n int) error {
	if n < 0 {
		return api.ErrArg
	}
	for n > groupMask {
		w.WriteByte(byte(n&groupMask | follows))
		n >>= groupBits
	}
	w.WriteByte(byte(n))
	return nil
}

// Text writes a text, its length ahead of it.
func (w *Writer) Text(s string) {
	w.Num(len(s)) // a length is never below 0, so this is never refused
	w.WriteString(s)
}

// Bytes is what was written: a copy, since the buffer's own bytes may be written over later.
func (w *Writer) Bytes() []byte { return bytes.Clone(w.Buffer.Bytes()) }

// Reader takes bytes apart.
type Reader struct {
	rest []byte
}

// NewReader is a reader at the beginning of p. It reads a copy: who handed p in may change it.
func NewReader(p []byte) *Reader { return &Reader{rest: bytes.Clone(p)} }

// Num reads what Writer's Num writes, and nothing else.
func (r *Reader) Num() (int, error) {
	n, size, err := number(r.rest)
	if err != nil {
		return 0, err
	}
	r.rest = r.rest[size:]
	return n, nil
}

// Text reads what Writer's Text writes, of no more than most bytes.
func (r *Reader) Text(most int) (string, error) {
	n, size, err := number(r.rest)
	if err != nil {
		return "", err
	}
	if n > most {
		return "", api.ErrMany
	}
	behind := r.rest[size:]
	if n > len(behind) {
		return "", api.ErrShort
	}
	r.rest = behind[n:]
	return string(behind[:n]), nil
}

// Left is how many bytes were not read.
func (r *Reader) Left() int { return len(r.rest) }

// number is the number whose form p begins with, and of how many bytes the form is.
func number(p []byte) (n, size int, err error) {
	for i, b := range p {
		n |= int(b&groupMask) << (groupBits * i)
		size = i + 1
		switch {
		case b == 0 && i > 0:
			return 0, 0, api.ErrForm
		case b < follows:
			return n, size, nil
		case size == maxGroups:
			return 0, 0, api.ErrForm
		}
	}
	return 0, 0, api.ErrShort
}
