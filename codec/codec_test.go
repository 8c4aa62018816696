package codec_test

import (
	"bytes"
	"hash/crc32"
	"math"
	"math/rand"
	"strings"
	"testing"

	"caesura/api"
	"caesura/codec"
)

// bitwise is P1.1 and P1.2 word for word, a bit at a time.
func bitwise(register uint32, p []byte) uint32 {
	for _, b := range p {
		register ^= uint32(b)
		for range 8 {
			if out := register & 1; out == 1 {
				register = register>>1 ^ 0xEDB88320
			} else {
				register >>= 1
			}
		}
	}
	return ^register
}

// samples are bytes of all lengths to 70, and a long one; the seed is fixed.
func samples() [][]byte {
	chance := rand.New(rand.NewSource(1))
	var all [][]byte
	for n := range 71 {
		p := make([]byte, n)
		chance.Read(p)
		all = append(all, p)
	}
	long := make([]byte, 100000)
	chance.Read(long)
	return append(all, long, nil)
}

func TestP1_1_Crc(t *testing.T) {
	for text, want := range map[string]uint32{"": 0, "a": 0xE8B7BE43, "123456789": 0xCBF43926} {
		if got := codec.Crc([]byte(text)); got != want {
			t.Errorf("Crc(%q) = %#x, want %#x", text, got, want)
		}
	}
	for b := range 256 {
		p := []byte{byte(b)}
		if got, want := codec.Crc(p), bitwise(math.MaxUint32, p); got != want {
			t.Errorf("Crc(%x) = %#x, want %#x", p, got, want)
		}
	}
	for _, p := range samples() {
		got := codec.Crc(p)
		if want := bitwise(math.MaxUint32, p); got != want || got != crc32.ChecksumIEEE(p) {
			t.Errorf("Crc of %d bytes = %#x, want %#x", len(p), got, want)
		}
	}
}

func TestP1_2_CrcMore(t *testing.T) {
	if got := codec.CrcMore(codec.Crc([]byte("1234")), []byte("56789")); got != 0xCBF43926 {
		t.Errorf("CrcMore(Crc(1234), 56789) = %#x", got)
	}
	for _, sum := range []uint32{0, 1, 0x80000000, 0xEDB88320, 0xCBF43926, math.MaxUint32 - 1, math.MaxUint32} {
		for _, p := range samples() {
			if got, want := codec.CrcMore(sum, p), bitwise(^sum, p); got != want {
				t.Errorf("CrcMore(%#x, %d bytes) = %#x, want %#x", sum, len(p), got, want)
			}
		}
	}
}

func TestP1_3_Num(t *testing.T) {
	if p := codec.NewWriter().Bytes(); len(p) != 0 {
		t.Errorf("a new writer has %x", p)
	}
	w := codec.NewWriter()
	var want []byte
	for _, c := range []struct {
		n    int
		form string
	}{
		{0, "\x00"}, {1, "\x01"}, {127, "\x7f"}, {128, "\x80\x01"}, {129, "\x81\x01"}, {256, "\x80\x02"}, {300, "\xac\x02"},
		{16383, "\xff\x7f"}, {16384, "\x80\x80\x01"},
		{1<<56 - 1, "\xff\xff\xff\xff\xff\xff\xff\x7f"}, {1 << 56, "\x80\x80\x80\x80\x80\x80\x80\x80\x01"},
		{1 << 62, "\x80\x80\x80\x80\x80\x80\x80\x80\x40"}, {math.MaxInt, "\xff\xff\xff\xff\xff\xff\xff\xff\x7f"},
	} {
		want = append(want, c.form...)
		if e := w.Num(c.n); e != nil || !bytes.Equal(w.Bytes(), want) {
			t.Errorf("Num(%d): %v, %x, want %x", c.n, e, w.Bytes(), want)
		}
		for _, below := range []int{-1, -128, math.MinInt} {
			if e := w.Num(below); e != api.ErrArg || !bytes.Equal(w.Bytes(), want) {
				t.Errorf("Num(%d): %v, %x, want ErrArg and nothing put", below, e, w.Bytes())
			}
		}
	}
}

func TestP1_3_Text(t *testing.T) {
	w := codec.NewWriter()
	var want []byte
	for _, c := range []struct{ text, length string }{
		{"", "\x00"}, {"ab", "\x02"}, {"\x00", "\x01"}, {"\xff\x80 \r\n", "\x05"}, {"\u00e9", "\x02"},
		{strings.Repeat("x", 127), "\x7f"}, {strings.Repeat("y", 128), "\x80\x01"}, {strings.Repeat("z", 20000), "\xa0\x9c\x01"},
	} {
		want = append(want, c.length+c.text...)
		if w.Text(c.text); !bytes.Equal(w.Bytes(), want) {
			t.Errorf("a text of %d bytes was not put behind, its length ahead of it", len(c.text))
		}
	}
}

func TestP1_3_BytesAreNewMemory(t *testing.T) {
	w := codec.NewWriter()
	w.Text("ab")
	first := w.Bytes()
	w.Text("cd")
	second, third := w.Bytes(), w.Bytes()
	for i := range second {
		second[i] = 'x'
	}
	for i := range first {
		first[i] = 'y'
	}
	_ = append(first, "zzzzzzzz"...)
	if got := append(w.Bytes(), w.Bytes()...); string(third) != "\x02ab\x02cd" || string(got) != "\x02ab\x02cd\x02ab\x02cd" {
		t.Errorf("who writes into an answer changes others: %q, %q", third, got)
	}
	spare := w.Bytes()
	spare = spare[:cap(spare)]
	w.Text("efgh")
	for i := range spare {
		spare[i] = '!'
	}
	if got := w.Bytes(); string(got) != "\x02ab\x02cd\x04efgh" {
		t.Errorf("who writes into an answer's spare room changes the writer: %q", got)
	}
}

func TestP1_4_Left(t *testing.T) {
	for _, p := range samples() {
		if got := codec.NewReader(p).Left(); got != len(p) {
			t.Errorf("a new reader has %d left, want %d", got, len(p))
		}
	}
	r := codec.NewReader([]byte("\xac\x02\x02ab\x80"))
	lefts := []int{r.Left()}
	r.Num()
	lefts = append(lefts, r.Left())
	r.Text(2)
	lefts = append(lefts, r.Left())
	r.Num()
	lefts = append(lefts, r.Left(), r.Left())
	for i, want := range []int{6, 4, 1, 1, 1} {
		if lefts[i] != want {
			t.Fatalf("Left answers %v", lefts)
		}
	}
}

func TestP1_4_BytesAreNotKept(t *testing.T) {
	room := []byte("\x05\x02ab!!!!")
	p := room[:4]
	r := codec.NewReader(p)
	for i := range room {
		room[i] = 0xff
	}
	n, e := r.Num()
	if s, f := r.Text(2); n != 5 || e != nil || s != "ab" || f != nil {
		t.Errorf("a change of what was handed in is seen: %d, %v, %q, %v", n, e, s, f)
	}
	room = []byte("\x02ab!!!!")
	r = codec.NewReader(room[:3])
	r.Text(2)
	codec.Crc(room[:3])
	codec.CrcMore(7, room[:3])
	if string(room) != "\x02ab!!!!" {
		t.Errorf("what was handed in, or what is behind it, was changed: %q", room)
	}
}

func TestP1_5_Num(t *testing.T) {
	for _, c := range []struct {
		form string
		n    int
	}{
		{"\x00", 0}, {"\x01", 1}, {"\x7f", 127}, {"\x80\x01", 128}, {"\xac\x02", 300}, {"\xff\x7f", 16383}, {"\x80\x80\x01", 16384},
		{"\xff\xff\xff\xff\xff\xff\xff\xff\x7f", math.MaxInt}, {"\x80\x80\x80\x80\x80\x80\x80\x80\x01", 1 << 56},
	} {
		for _, behind := range []string{"", "\x00", "\x80", "\xff\xff"} {
			r := codec.NewReader([]byte(c.form + behind))
			if n, e := r.Num(); n != c.n || e != nil || r.Left() != len(behind) {
				t.Errorf("Num over %x %x = %d, %v, %d left, want %d", c.form, behind, n, e, r.Left(), c.n)
			}
		}
	}
}

func TestP1_5_NumRefused(t *testing.T) {
	eight := strings.Repeat("\x80", 8)
	for _, c := range []struct {
		p    string
		want error
	}{
		{"", api.ErrShort}, {"\x80", api.ErrShort}, {"\xff\xff", api.ErrShort}, {eight, api.ErrShort},
		{"\x80\x00", api.ErrForm}, {"\x81\x80\x00", api.ErrForm}, {"\xff\x00\x01", api.ErrForm}, {eight + "\x00", api.ErrForm},
		{eight + "\x80", api.ErrForm}, {eight + "\x81", api.ErrForm}, {eight + "\xff\x01", api.ErrForm}, {eight + "\x80\x00", api.ErrForm},
		{strings.Repeat("\xff", 30), api.ErrForm},
	} {
		r := codec.NewReader([]byte("\x07" + c.p))
		r.Num()
		for range 2 { // the reader stays, so it answers the same again
			if n, e := r.Num(); n != 0 || e != c.want || r.Left() != len(c.p) {
				t.Errorf("Num over %x = %d, %v, %d left, want %v", c.p, n, e, r.Left(), c.want)
			}
		}
	}
}

func TestP1_6_Text(t *testing.T) {
	for _, c := range []struct {
		p    string
		most int
		want string
		left int
	}{
		{"\x00", 0, "", 0}, {"\x00z", 9, "", 1}, {"\x02ab", 2, "ab", 0}, {"\x02abz", 3, "ab", 1}, {"\x02ab", math.MaxInt, "ab", 0},
		{"\x03\xff\x00\x80", 3, "\xff\x00\x80", 0}, {"\x80\x01" + strings.Repeat("x", 129), 128, strings.Repeat("x", 128), 1},
	} {
		r := codec.NewReader([]byte(c.p))
		if s, e := r.Text(c.most); s != c.want || e != nil || r.Left() != c.left {
			t.Errorf("Text(%d) over %x = %q, %v, %d left", c.most, c.p, s, e, r.Left())
		}
	}
}

func TestP1_6_TextRefused(t *testing.T) {
	greatest := "\xff\xff\xff\xff\xff\xff\xff\xff\x7f"
	for _, c := range []struct {
		p    string
		most int
		want error
	}{
		{"", 9, api.ErrShort}, {"\x82", 9, api.ErrShort}, {"\x80\x00", 9, api.ErrForm}, {strings.Repeat("\x80", 9), 9, api.ErrForm},
		{"", -1, api.ErrShort}, {"\x80\x00", -1, api.ErrForm},
		{"\x02ab", 1, api.ErrMany}, {"\x00", -1, api.ErrMany}, {"\x00", math.MinInt, api.ErrMany}, {greatest + "a", math.MaxInt - 1, api.ErrMany},
		{"\x02", 1, api.ErrMany},
		{"\x02a", 2, api.ErrShort}, {"\x01", 1, api.ErrShort}, {"\x02", 9, api.ErrShort}, {greatest + "a", math.MaxInt, api.ErrShort},
	} {
		r := codec.NewReader([]byte(c.p))
		for range 2 {
			if s, e := r.Text(c.most); s != "" || e != c.want || r.Left() != len(c.p) {
				t.Errorf("Text(%d) over %x = %q, %v, %d left, want %v", c.most, c.p, s, e, r.Left(), c.want)
			}
		}
	}
	r := codec.NewReader([]byte("\x02ab"))
	r.Text(1)
	if s, e := r.Text(2); s != "ab" || e != nil {
		t.Errorf("a refusal has moved the reader: %q, %v", s, e)
	}
}

// edges are the numbers around each power of two.
func edges() []int {
	all := []int{0}
	for k := range 63 {
		all = append(all, 1<<k-1, 1<<k, 1<<k+1)
	}
	return append(all, math.MaxInt-1, math.MaxInt)
}

func TestP1_7_WrittenIsReadAgain(t *testing.T) {
	w := codec.NewWriter()
	for i, n := range edges() {
		if e := w.Num(n); e != nil {
			t.Fatalf("Num(%d): %v", n, e)
		}
		w.Text(strings.Repeat("\x80", i))
	}
	r := codec.NewReader(w.Bytes())
	for i, n := range edges() {
		if got, e := r.Num(); got != n || e != nil {
			t.Fatalf("Num = %d, %v, want %d", got, e, n)
		}
		if s, e := r.Text(i); s != strings.Repeat("\x80", i) || e != nil {
			t.Fatalf("Text(%d) = %q, %v", i, s, e)
		}
	}
	if r.Left() != 0 {
		t.Errorf("%d bytes left", r.Left())
	}
}

func TestP1_7_ReadIsWrittenAgain(t *testing.T) {
	chance := rand.New(rand.NewSource(2))
	read := 0
	for range 200000 {
		p := make([]byte, chance.Intn(11))
		for i := range p {
			p[i] = []byte{0, 1, 0x7f, 0x80, 0x81, 0xff, byte(chance.Intn(256)), byte(chance.Intn(256)) | 0x80}[chance.Intn(8)]
		}
		r := codec.NewReader(p)
		n, e := r.Num()
		if e != nil {
			continue
		}
		read++
		w := codec.NewWriter()
		if e := w.Num(n); e != nil || !bytes.Equal(w.Bytes(), p[:len(p)-r.Left()]) {
			t.Fatalf("%x was read as %d, which is written as %x, %v", p, n, w.Bytes(), e)
		}
	}
	if read < 10000 {
		t.Errorf("only %d numbers were read", read)
	}
}

func TestP1_7_NoFormBeginsAnother(t *testing.T) {
	for _, n := range edges() {
		w := codec.NewWriter()
		w.Num(n)
		form := w.Bytes()
		for i := range form {
			if got, e := codec.NewReader(form[:i]).Num(); e != api.ErrShort {
				t.Errorf("%x, the beginning of the form of %d, is read: %d, %v", form[:i], n, got, e)
			}
		}
	}
}

func TestP1_8_Pieces(t *testing.T) {
	for _, p := range samples()[:71] {
		for i := range len(p) + 1 {
			if got, want := codec.CrcMore(codec.Crc(p[:i]), p[i:]), codec.Crc(p); got != want {
				t.Errorf("%d bytes cut at %d: %#x, want %#x", len(p), i, got, want)
			}
		}
	}
	for _, sum := range []uint32{0, 1, 12345, math.MaxUint32} {
		if codec.CrcMore(sum, nil) != sum || codec.CrcMore(sum, []byte{}) != sum {
			t.Errorf("CrcMore(%#x, none) is another sum", sum)
		}
	}
}

func TestP1_8_TurnedBits(t *testing.T) {
	chance := rand.New(rand.NewSource(3))
	p := make([]byte, 40)
	chance.Read(p)
	sum := codec.Crc(p)
	for first := range 8*len(p) - 31 {
		bursts := []uint32{1, 3, 0x80000001, 0xEDB88320, 0xDB710641, math.MaxUint32}
		for range 20 {
			bursts = append(bursts, chance.Uint32()|1)
		}
		for _, burst := range bursts {
			turned := bytes.Clone(p)
			for k := range 32 {
				turned[(first+k)/8] ^= byte(burst>>k&1) << ((first + k) % 8)
			}
			if codec.Crc(turned) == sum {
				t.Fatalf("bits %#x turned from bit %d on: the same sum", burst, first)
			}
		}
	}
}

func TestP1_8_ThreeTogether(t *testing.T) {
	chance := rand.New(rand.NewSource(4))
	for n := range 100 {
		a, b, c, all := make([]byte, n), make([]byte, n), make([]byte, n), make([]byte, n)
		chance.Read(a)
		chance.Read(b)
		chance.Read(c)
		for i := range all {
			all[i] = a[i] ^ b[i] ^ c[i]
		}
		if codec.Crc(all) != codec.Crc(a)^codec.Crc(b)^codec.Crc(c) {
			t.Errorf("three texts of %d bytes: the sum is not their sums xored", n)
		}
	}
}
