package op_test

import (
	"math/rand"
	"strings"
	"testing"
	"unicode/utf8"

	"bulla/op"
)

// wantRunes tells where Runes and Name do not say that a text is a name of so many runes, or none (0).
func wantRunes(t *testing.T, s string, n int) {
	t.Helper()
	if g := op.Runes(s); g != n {
		t.Errorf("Runes(%q) = %d, want %d", s, g, n)
	}
	if g := op.Name(s); g != (n > 0) {
		t.Errorf("Name(%q) = %v", s, g)
	}
}

// P6.1: how many runes a name has.
func TestRunesCounts(t *testing.T) {
	for s, n := range map[string]int{
		"":             0,
		"t":            1,
		"größe":        5,
		"a.b-c_d":      7,
		"日本":           2,
		"\U0001f600x":  2,
		"a b":          0,
		"a/b":          0,
		"/":            0,
		"ab/":          0,
		" t":           0,
		"t ":           0,
		"t\n":          0,
		"t\x00":        0,
		"\x00":         0,
		"\ufeffa":      2, // a byte order mark is a rune as others are
		"e\u0301":      2, // runes are counted, not what is seen
		"\u00a0\u3000": 2, // blanks, but none that the chapter names
		"\\..":         3,
	} {
		wantRunes(t, s, n)
	}
}

// P6.1: names of no rune, of one, of MaxName and of one more, in runes of one to four bytes.
func TestNameLengths(t *testing.T) {
	for _, r := range []rune{'!', '~', 160, 0x7ff, 0x800, 0xffff, 0x10000, 0x10ffff} {
		for n := range 40 {
			want := n
			if n > 16 {
				want = 0
			}
			wantRunes(t, runes(n, r), want)
		}
	}
	wantRunes(t, "aé€😀aé€😀aé€😀aé€😀", 16)
	wantRunes(t, "aé€😀aé€😀aé€😀aé€😀a", 0)
	wantRunes(t, runes(15, 'a')+"/", 0)
	wantRunes(t, runes(16, 'a')+"/", 0)
	wantRunes(t, runes(16, 'a')+"\xff", 0)
	wantRunes(t, runes(17, 'a')+"/", 0)
	wantRunes(t, strings.Repeat("a", 1<<20), 0)
}

// P6.1: each rune, on its own and beside others.
func TestEachRune(t *testing.T) {
	for r := rune(0); r <= utf8.MaxRune; r++ {
		if !utf8.ValidRune(r) {
			continue
		}
		want := 1
		if r < 33 || r == 47 || r >= 127 && r <= 159 || r == 0xfffd {
			want = 0
		}
		wantRunes(t, string(r), want)
		wantRunes(t, "a"+string(r), 2*want)
		wantRunes(t, string(r)+"é", 2*want)
	}
}

// P6.1: the runes at and beside the ends of what may stand in a name.
func TestRunesBeside(t *testing.T) {
	for r, want := range map[rune]int{
		31: 0, 32: 0, 33: 1, 34: 1, 46: 1, 47: 0, 48: 1, 125: 1, 126: 1, 127: 0, 128: 0, 158: 0, 159: 0, 160: 1, 161: 1,
		0xd7ff: 1, 0xe000: 1, 0xfffc: 1, 0xfffd: 0, 0xfffe: 1, 0xffff: 1, 0x10000: 1, 0x10ffff: 1,
	} {
		wantRunes(t, string(r), want)
	}
}

// P6.1: bytes that are no UTF-8, and forms of a rune that are longer than its one form.
func TestNoUTF8(t *testing.T) {
	for _, s := range []string{
		"\xff", "\xfe", "\x80", "\xbf", "\xc3", "\xe2\x82", "\xf0\x9f\x98", // what never stands, and what ends too early
		"\xc1\xa1", "\xe0\x81\xa1", "\xf0\x80\x81\xa1", "\xf8\x80\x80\x81\xa1", "\xfc\x80\x80\x80\x81\xa1", // an a
		"\xc0\x80", "\xc0\xaf", "\xe0\x80\xaf", // 0, and a /
		"\xe0\x83\xa9", "\xf0\x80\x83\xa9", "\xf0\x82\x82\xac", // an é, a €
		"\xed\xa0\x80", "\xed\xbf\xbf", "\xed\xa0\xbd\xed\xb8\x80", // halves of UTF-16
		"\xf4\x90\x80\x80", "\xf7\xbf\xbf\xbf", // above the greatest rune
	} {
		wantRunes(t, s, 0)
		wantRunes(t, "a"+s, 0)
		wantRunes(t, s+"a", 0)
		wantRunes(t, "é"+s+"€", 0)
		wantRunes(t, runes(15, 'a')+s, 0)
	}
}

// P6.1: all texts of up to two bytes, and many longer ones of bytes that forms are made of.
func TestAllShortTexts(t *testing.T) {
	var one [256]string
	for i := range one {
		one[i] = string([]byte{byte(i)})
	}
	ask := func(s string) {
		n := 0
		if isName(s) {
			n = utf8.RuneCountInString(s)
		}
		wantRunes(t, s, n)
	}
	for _, a := range one {
		ask(a)
		for _, b := range one {
			ask(a + b)
		}
	}
	bytes := "\x00 !/a~\x7f\x80\x81\x9f\xa0\xbd\xbf\xc0\xc1\xc2\xdf\xe0\xed\xee\xef\xf0\xf4\xf5\xff"
	dice := rand.New(rand.NewSource(1))
	for range 300000 {
		b := make([]byte, dice.Intn(20))
		for i := range b {
			b[i] = bytes[dice.Intn(len(bytes))]
		}
		ask(string(b))
	}
}
