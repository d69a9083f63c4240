package runes_test

import (
	"bytes"
	"math"
	"slices"
	"strings"
	"testing"

	"handloom/api"
	"handloom/runes"
)

// isRune is the chapter's word, by numbers alone.
func isRune(n int64) bool { return 0 <= n && n <= 0x10ffff && !(0xd800 <= n && n <= 0xdfff) }

// form is a number in so many bytes as UTF-8 would have it, be it a rune and the form the shortest or not.
func form(n int64, count int) []byte {
	if count == 1 {
		return []byte{byte(n)}
	}
	marks := [5]int64{0, 0, 0xc0, 0xe0, 0xf0}
	l := []byte{byte(marks[count] | n>>(6*(count-1)))}
	for i := count - 2; i >= 0; i-- {
		l = append(l, byte(0x80|n>>(6*i)&0x3f))
	}
	return l
}

// encode is a rune's shortest form; none of what is no rune.
func encode(n int64) []byte {
	switch {
	case !isRune(n):
		return nil
	case n < 0x80:
		return form(n, 1)
	case n < 0x800:
		return form(n, 2)
	case n < 0x10000:
		return form(n, 3)
	}
	return form(n, 4)
}

// whole is the rune that begins a text, and how many bytes it has; 0 bytes: the first byte is bad.
func whole(s string) (rune, int) {
	masks := [5]int64{0, 0x7f, 0x1f, 0x0f, 0x07}
	for count := 1; count <= 4 && count <= len(s); count++ {
		n := int64(s[0]) & masks[count]
		for _, b := range []byte(s[1:count]) {
			n = n<<6 | int64(b)&0x3f
		}
		if string(encode(n)) == s[:count] {
			return rune(n), count
		}
	}
	return 0, 0
}

// piece is a rune of a text, or a bad byte of it.
type piece struct {
	r     rune
	begin int
	count int
	bad   bool
	at    api.Pos
}

// pieces goes through a text by the chapter's words; the last piece is what is behind it, with no bytes.
func pieces(src string) []piece {
	var l []piece
	at := api.Pos{Line: 1, Col: 1}
	for begin := 0; begin < len(src); {
		r, count := whole(src[begin:])
		p := piece{r, begin, max(count, 1), count == 0, at}
		l = append(l, p)
		begin += p.count
		at.Col++
		if !p.bad && r == 10 {
			at = api.Pos{Line: at.Line + 1, Col: 1}
		}
	}
	return append(l, piece{begin: len(src), at: at})
}

func wantSplit(src string) ([]api.Rune, api.Fault) {
	if len(src) > api.MaxSource {
		return nil, api.Fault{Err: api.ErrLong, At: api.Pos{Line: 1, Col: 1}}
	}
	var l []api.Rune
	for _, p := range pieces(src) {
		switch {
		case p.bad:
			return nil, api.Fault{Err: api.ErrUtf8, At: p.at}
		case p.count > 0:
			l = append(l, api.Rune{R: p.r, Off: p.begin, At: p.at})
		}
	}
	return l, api.Fault{}
}

func wantPlace(l []piece, off int) api.Pos {
	for _, p := range l {
		if off < p.begin+p.count {
			return p.at
		}
	}
	return l[len(l)-1].at
}

// offsets are all bytes of a text, and those ahead of it and behind it.
func offsets(src string) []int {
	l := []int{math.MinInt, math.MinInt32, -2, len(src) + 1, len(src) + 2, math.MaxInt32, math.MaxInt}
	for off := -1; off <= len(src); off++ {
		l = append(l, off)
	}
	return l
}

// holds holds Split and Place of a text against the chapter's words.
func holds(t *testing.T, src string) {
	t.Helper()
	list, fault := runes.Split(src)
	wantList, wantFault := wantSplit(src)
	if fault != wantFault || !slices.Equal(list, wantList) {
		t.Fatalf("Split(%+q) = %v %v, want %v %v", src, list, fault, wantList, wantFault)
	}
	l := pieces(src)
	for _, off := range offsets(src) {
		if got, want := runes.Place(src, off), wantPlace(l, off); got != want {
			t.Fatalf("Place(%+q, %d) = %v, want %v", src, off, got, want)
		}
	}
}

// edgeRunes are the first and the last ones of each count of bytes, of the gap between them, and of the classes.
func edgeRunes() []rune {
	return []rune{
		0, 9, 10, 13, 32, '0', '9', 'A', 'Z', 'a', 'z', 126, 127, 128, 129, 0xe9, 0x7fe, 0x7ff, 0x800, 0x801,
		0xd7fe, 0xd7ff, 0xe000, 0xe001, 0xfffc, 0xfffd, 0xfffe, 0xffff, 0x10000, 0x10001, 0x10fffe, 0x10ffff,
	}
}

// noRunes are numbers around the runes that are none.
func noRunes() []rune {
	return []rune{
		math.MinInt32, math.MinInt32 + 1, -0x10000, -128, -2, -1, 0xd800, 0xd801, 0xdbff, 0xdc00, 0xdffe, 0xdfff,
		0x110000, 0x110001, 0x1fffff, 0x200000, math.MaxInt32 - 1, math.MaxInt32,
	}
}

// edgeBytes are those at which what a byte begins, or may follow, changes.
func edgeBytes() []byte {
	return []byte{
		0x00, 0x0a, 0x61, 0x7f, 0x80, 0x8f, 0x90, 0x9f, 0xa0, 0xbd, 0xbf, 0xc0, 0xc1, 0xc2, 0xdf,
		0xe0, 0xe1, 0xec, 0xed, 0xee, 0xef, 0xf0, 0xf1, 0xf3, 0xf4, 0xf5, 0xf7, 0xf8, 0xfc, 0xfe, 0xff,
	}
}

// sower makes numbers, the same in every run.
type sower uint64

func (s *sower) below(n int) int {
	x := uint64(*s)
	x ^= x << 13
	x ^= x >> 7
	x ^= x << 17
	*s = sower(x)
	return int(x % uint64(n))
}

// soundText is of so many runes, of all counts of bytes, and with several lines.
func (s *sower) soundText(count int) string {
	edges := edgeRunes()
	var b []byte
	for range count {
		switch s.below(4) {
		case 0:
			b = append(b, 10)
		case 1:
			b = append(b, encode(int64(edges[s.below(len(edges))]))...)
		default:
			b = append(b, encode(int64(s.below(1<<(4+s.below(17)))))...) // none of a half
		}
	}
	return string(b)
}

// anyText is of bytes that are often near to being runes.
func (s *sower) anyText(count int) string {
	edges := edgeBytes()
	var b []byte
	for range count {
		switch s.below(3) {
		case 0:
			b = append(b, byte(s.below(256)))
		case 1:
			b = append(b, edges[s.below(len(edges))])
		default:
			b = append(b, s.soundText(1)...)
			b = b[:len(b)-s.below(min(2, len(b)+1))]
		}
	}
	return string(b)
}

// P2.1
func TestSplitByHand(t *testing.T) {
	rows := []struct {
		src  string
		want []api.Rune
	}{
		{"", nil},
		{"a", []api.Rune{{R: 'a', Off: 0, At: api.Pos{Line: 1, Col: 1}}}},
		{"a\n\xc3\xa9", []api.Rune{
			{R: 'a', Off: 0, At: api.Pos{Line: 1, Col: 1}}, {R: 10, Off: 1, At: api.Pos{Line: 1, Col: 2}},
			{R: 0xe9, Off: 2, At: api.Pos{Line: 2, Col: 1}},
		}},
		{"\n\n", []api.Rune{{R: 10, Off: 0, At: api.Pos{Line: 1, Col: 1}}, {R: 10, Off: 1, At: api.Pos{Line: 2, Col: 1}}}},
		{"\xe2\x82\xac\xf0\x9f\x98\x80\x00\r\t", []api.Rune{
			{R: 0x20ac, Off: 0, At: api.Pos{Line: 1, Col: 1}}, {R: 0x1f600, Off: 3, At: api.Pos{Line: 1, Col: 2}},
			{R: 0, Off: 7, At: api.Pos{Line: 1, Col: 3}}, {R: 13, Off: 8, At: api.Pos{Line: 1, Col: 4}},
			{R: 9, Off: 9, At: api.Pos{Line: 1, Col: 5}},
		}},
		// fffd is a rune like others, not a sign of a bad byte
		{"\xef\xbf\xbd\xef\xbf\xbd", []api.Rune{
			{R: 0xfffd, Off: 0, At: api.Pos{Line: 1, Col: 1}}, {R: 0xfffd, Off: 3, At: api.Pos{Line: 1, Col: 2}},
		}},
	}
	for _, r := range rows {
		if got, fault := runes.Split(r.src); fault != (api.Fault{}) || !slices.Equal(got, r.want) {
			t.Errorf("Split(%+q) = %v %v, want %v", r.src, got, fault, r.want)
		}
	}
}

// P2.1
func TestSplitTellsTheFirstBadByte(t *testing.T) {
	rows := []struct {
		src       string
		line, col int
	}{
		{"\xff", 1, 1}, {"\xfe", 1, 1}, {"\x80", 1, 1}, {"\xbf", 1, 1}, {"\xf8\x88\x80\x80\x80", 1, 1}, // begin none
		{"\xc0\x80", 1, 1}, {"\xc1\xbf", 1, 1}, {"\xe0\x9f\xbf", 1, 1}, {"\xf0\x8f\xbf\xbf", 1, 1}, // not the shortest
		{"\xc3", 1, 1}, {"\xe2\x82", 1, 1}, {"\xf0\x9f\x98", 1, 1}, {"a\xc3", 1, 2}, {"\n\xe2\x82", 2, 1}, // cut off
		{"\xc3a", 1, 1}, {"\xe2\x82a", 1, 1}, {"\xf0\x9f\x98\n", 1, 1}, {"\xc3\xc3\xa9", 1, 1},
		{"\xed\xa0\x80", 1, 1}, {"\xed\xbf\xbf", 1, 1}, {"\xed\xa0\xbd\xed\xb8\x80", 1, 1}, // halves
		{"\xf4\x90\x80\x80", 1, 1}, {"\xf5\x80\x80\x80", 1, 1}, {"\xf7\xbf\xbf\xbf", 1, 1}, // above 10ffff
		{"ab\nc\xc3\xa9\xef\xbf\xbd\xff\xff", 2, 4}, {"\xc3\xa9\xa9", 1, 2}, {"\n\n\x80\n", 3, 1}, {"\xef\xbf\xbd\xef\xbf", 1, 2},
	}
	for _, r := range rows {
		want := api.Fault{Err: api.ErrUtf8, At: api.Pos{Line: r.line, Col: r.col}}
		if got, fault := runes.Split(r.src); fault != want || got != nil {
			t.Errorf("Split(%+q) = %v %v, want %v", r.src, got, fault, want)
		}
	}
}

// P2.1
func TestPlaceByHand(t *testing.T) {
	const text = "a\xc3\xa9\n\xf0\x9f\x98\x80b\n" // a 1 1, é 1 2, 10 1 3, a face 2 1, b 2 2, 10 2 3
	const broken = "\xe2\x82\n\xffa"              // bad 1 1, bad 1 2, 10 1 3, bad 2 1, a 2 2
	rows := []struct {
		src            string
		off, line, col int
	}{
		{"", -1, 1, 1}, {"", 0, 1, 1}, {"", 1, 1, 1}, {"", math.MinInt, 1, 1}, {"", math.MaxInt, 1, 1},
		{text, math.MinInt, 1, 1}, {text, -1, 1, 1}, {text, 0, 1, 1}, {text, 1, 1, 2}, {text, 2, 1, 2}, {text, 3, 1, 3},
		{text, 4, 2, 1}, {text, 5, 2, 1}, {text, 6, 2, 1}, {text, 7, 2, 1}, {text, 8, 2, 2}, {text, 9, 2, 3},
		{text, 10, 3, 1}, {text, 11, 3, 1}, {text, math.MaxInt, 3, 1},
		{"ab", 1, 1, 2}, {"ab", 2, 1, 3}, {"\n", -1, 1, 1}, {"\n", 0, 1, 1}, {"\n", 1, 2, 1},
		{broken, -1, 1, 1}, {broken, 0, 1, 1}, {broken, 1, 1, 2}, {broken, 2, 1, 3}, {broken, 3, 2, 1}, {broken, 4, 2, 2}, {broken, 5, 2, 3},
		{"\xed\xa0\x80a", 2, 1, 3}, {"\xed\xa0\x80a", 3, 1, 4}, {"\xc0\x8a", 1, 1, 2}, {"\xc0\x8a", 2, 1, 3},
		{"\xf0\x9f\xc3\xa9a", 3, 1, 3}, {"\xf0\x9f\xc3\xa9a", 4, 1, 4}, {"\xef\xbf\xbda", 2, 1, 1}, {"\xef\xbfa", 1, 1, 2},
	}
	for _, r := range rows {
		if got, want := runes.Place(r.src, r.off), (api.Pos{Line: r.line, Col: r.col}); got != want {
			t.Errorf("Place(%+q, %d) = %v, want %v", r.src, r.off, got, want)
		}
	}
}

// P2.1: just MaxSource bytes, and one more; too long comes ahead of bad
func TestMaxSource(t *testing.T) {
	const long = 1 << 14
	long1 := api.Fault{Err: api.ErrLong, At: api.Pos{Line: 1, Col: 1}}
	fill := func(s string, count int) string { return strings.Repeat(s, count) }
	for _, src := range []string{
		fill("a", long), fill("\n", long), fill("\xc3\xa9", long/2), fill("\xf0\x9f\x98\x80", long/4),
		fill("a", long-3) + "\xe2\x82\xac", fill("a\n", long/2-1) + "\xc3\xa9", fill("\xff", long), fill("a", long-1) + "\xc3",
	} {
		list, fault := runes.Split(src)
		want, wantFault := wantSplit(src)
		if fault != wantFault || !slices.Equal(list, want) {
			t.Errorf("Split of %d bytes %+q ..: %d runes, %v, want %d, %v", len(src), src[:4], len(list), fault, len(want), wantFault)
		}
		l := pieces(src)
		for _, off := range []int{math.MinInt, -1, 0, 1, long / 2, long - 2, long - 1, long, long + 1, math.MaxInt} {
			if got, want := runes.Place(src, off), wantPlace(l, off); got != want {
				t.Errorf("Place of %d bytes %+q .., %d: %v, want %v", len(src), src[:4], off, got, want)
			}
		}
		for _, more := range []string{src + "a", src + "\n", src + "\xff", src + src, "\xff" + src} {
			if list, fault := runes.Split(more); fault != long1 || list != nil {
				t.Errorf("Split of %d bytes: %d runes, %v, want %v", len(more), len(list), fault, long1)
			}
			for _, off := range []int{math.MinInt, -1, 0, 1, long, long + 1, len(more), math.MaxInt} {
				if got := runes.Place(more, off); got != (api.Pos{}) {
					t.Errorf("Place of %d bytes, %d: %v, want 0 0", len(more), off, got)
				}
			}
		}
	}
}

// P2.1: all texts of up to two bytes, those of three and four that lie at edges
func TestAllShortTexts(t *testing.T) {
	holds(t, "")
	for a := range 256 {
		holds(t, string([]byte{byte(a)}))
		for b := range 256 {
			holds(t, string([]byte{byte(a), byte(b)}))
		}
	}
	l := edgeBytes()
	for _, a := range l {
		for _, b := range l {
			for _, c := range l {
				holds(t, string([]byte{a, b, c}))
			}
		}
	}
	follow := []byte{0x0a, 0x7f, 0x80, 0x8f, 0x90, 0x9f, 0xa0, 0xbf, 0xc3, 0xff}
	for a := 0xe0; a < 0x100; a++ {
		for _, b := range l {
			for _, c := range follow {
				for _, d := range follow {
					holds(t, string([]byte{byte(a), b, c, d}))
				}
			}
		}
	}
}

// P2.1, and 0.1: texts of any bytes
func TestAnyText(t *testing.T) {
	s := sower(88172645463325252)
	for range 3000 {
		holds(t, s.anyText(s.below(40)))
		holds(t, s.soundText(s.below(40)))
	}
}

// P2.1: a rune that is cut off at the text's end, or ahead of something else
func TestCutRunes(t *testing.T) {
	for _, r := range edgeRunes() {
		one := string(encode(int64(r)))
		for cut := range len(one) + 1 {
			for _, head := range []string{"", "a", "\n", "\xc3\xa9\n\xf0\x9f\x98\x80"} {
				for _, tail := range []string{"", "a", "\n", "\xc3\xa9", "\x80", "\xff"} {
					holds(t, head+one[:cut]+tail)
					holds(t, head+one[cut:]+tail)
				}
			}
		}
	}
}

// forbiddenForms are halves of pairs, forms that are not the shortest, and numbers above 10ffff.
func forbiddenForms() []string {
	var l []string
	add := func(from, to int64, count int) {
		for n := from; n <= to; n++ {
			l = append(l, string(form(n, count)))
		}
	}
	add(0, 0x7f, 2)
	add(0, 0x7ff, 3)
	add(0, 0xffff, 4)
	add(0xd800, 0xdfff, 3)
	add(0x110000, 0x110fff, 4)
	add(0x13fff0, 0x14000f, 4)
	add(0x1ffff0, 0x1fffff, 4)
	return l
}

// P2.1: each byte of a form that can't be is a bad one
func TestForbiddenForms(t *testing.T) {
	for _, wrong := range forbiddenForms() {
		for _, src := range []string{wrong, "a\n" + wrong + "b"} {
			head := strings.Index(src, wrong)
			at := api.Pos{Line: 1 + strings.Count(src[:head], "\n"), Col: 1}
			if list, fault := runes.Split(src); list != nil || fault != (api.Fault{Err: api.ErrUtf8, At: at}) {
				t.Fatalf("Split(%+q) = %v %v, want ErrUtf8 at %v", src, list, fault, at)
			}
			for i := range len(wrong) + 1 {
				if got, want := runes.Place(src, head+i), (api.Pos{Line: at.Line, Col: 1 + i}); got != want {
					t.Fatalf("Place(%+q, %d) = %v, want %v", src, head+i, got, want)
				}
			}
		}
	}
}

// P2.2
func TestClassesByHand(t *testing.T) {
	const other, low, up, digit, blank = 0, 1, 2, 3, 4
	rows := []struct {
		r     rune
		class int
	}{
		{0, other}, {8, other}, {9, blank}, {10, blank}, {11, other}, {12, other}, {13, blank}, {14, other},
		{31, other}, {32, blank}, {33, other}, {'0' - 1, other}, {'0', digit}, {'5', digit}, {'9', digit}, {'9' + 1, other},
		{'A' - 1, other}, {'A', up}, {'M', up}, {'Z', up}, {'Z' + 1, other}, {'_', other},
		{'a' - 1, other}, {'a', low}, {'m', low}, {'z', low}, {'z' + 1, other}, {127, other}, {128, low}, {160, low},
		{0xc9, low}, {0xe9, low}, {0x660, low}, {0x7ff, low}, {0x800, low}, {0x2028, low}, {0xd7ff, low},
		{0xd800, other}, {0xdbff, other}, {0xdc00, other}, {0xdfff, other}, {0xe000, low}, {0xfffd, low}, {0xfffe, low},
		{0xffff, low}, {0x10000, low}, {0x10ffff, low}, {0x110000, other}, {math.MaxInt32, other},
		{-1, other}, {-128, other}, {math.MinInt32, other}, {math.MinInt32 + 'a', other},
	}
	for _, r := range rows {
		got := [4]bool{runes.Low(r.r), runes.Up(r.r), runes.Digit(r.r), runes.Blank(r.r)}
		want := [4]bool{r.class == low, r.class == up, r.class == digit, r.class == blank}
		if got != want {
			t.Errorf("%#x: small, great, digit, blank: %v, want %v", r.r, got, want)
		}
	}
}

// P2.2
func TestPutByHand(t *testing.T) {
	rows := []struct {
		r    rune
		want string
	}{
		{0, "\x00"}, {10, "\n"}, {'a', "a"}, {127, "\x7f"}, {128, "\xc2\x80"}, {233, "\xc3\xa9"}, {0x7ff, "\xdf\xbf"},
		{0x800, "\xe0\xa0\x80"}, {0x20ac, "\xe2\x82\xac"}, {0xd7ff, "\xed\x9f\xbf"}, {0xe000, "\xee\x80\x80"},
		{0xfffd, "\xef\xbf\xbd"}, {0xffff, "\xef\xbf\xbf"}, {0x10000, "\xf0\x90\x80\x80"}, {0x1f600, "\xf0\x9f\x98\x80"},
		{0x10ffff, "\xf4\x8f\xbf\xbf"},
	}
	for _, r := range rows {
		if got := runes.Put(r.r); string(got) != r.want {
			t.Errorf("Put(%#x) = % x, want % x", r.r, got, r.want)
		}
	}
	for _, r := range noRunes() {
		if got := runes.Put(r); got != nil {
			t.Errorf("Put(%#x) = % x, want none", r, got)
		}
	}
}

// P2.2, P2.4: every rune, the numbers around them, and some of all sizes; no rune is of two classes
func TestEveryRune(t *testing.T) {
	l := noRunes()
	for r := rune(-0x400); r <= 0x110400; r++ {
		l = append(l, r)
	}
	s := sower(362436069)
	for range 1000 {
		l = append(l, rune(s.below(1<<32)))
	}
	for _, r := range l {
		low, up, digit, blank := runes.Low(r), runes.Up(r), runes.Digit(r), runes.Blank(r)
		wantLow := strings.ContainsRune("abcdefghijklmnopqrstuvwxyz", r) && r < 128 || r >= 128 && isRune(int64(r))
		wantUp := 'A' <= r && r <= 'Z'
		wantDigit := '0' <= r && r <= '9'
		wantBlank := slices.Contains([]rune{9, 10, 13, 32}, r)
		if low != wantLow || up != wantUp || digit != wantDigit || blank != wantBlank {
			t.Fatalf("%#x: small %v, great %v, digit %v, blank %v", r, low, up, digit, blank)
		}
		classes := 0
		for _, is := range []bool{low, up, digit, blank} {
			if is {
				classes++
			}
		}
		if classes > 1 {
			t.Fatalf("%#x is of %d classes", r, classes)
		}
		if got, want := runes.Put(r), encode(int64(r)); !bytes.Equal(got, want) {
			t.Fatalf("Put(%#x) = % x, want % x", r, got, want)
		}
	}
}

// P2.3: the bytes of the runes of a sound text are the text
func TestTextsThereAndBack(t *testing.T) {
	s := sower(521288629)
	texts := []string{"", "\n", "\xef\xbf\xbd", strings.Repeat("\xf0\x9f\x98\x80", api.MaxSource/4)}
	for range 500 {
		texts = append(texts, s.soundText(s.below(300)))
	}
	for _, src := range texts {
		list, fault := runes.Split(src)
		if fault != (api.Fault{}) {
			t.Fatalf("Split(%+q) tells %v", src, fault)
		}
		var back []byte
		for _, r := range list {
			if r.Off != len(back) {
				t.Fatalf("a rune of %+q begins at %d, want %d", src, r.Off, len(back))
			}
			back = append(back, runes.Put(r.R)...)
		}
		if string(back) != src {
			t.Fatalf("the runes of %+q are %+q", src, back)
		}
	}
}

// P2.3: texts of runes are sound, and are these runes
func TestRunesThereAndBack(t *testing.T) {
	var batch []rune
	check := func() {
		var src []byte
		for _, r := range batch {
			src = append(src, runes.Put(r)...)
		}
		list, fault := runes.Split(string(src))
		if fault != (api.Fault{}) || len(list) != len(batch) {
			t.Fatalf("the text of runes from %#x on: %d runes, %v", batch[0], len(list), fault)
		}
		for i, r := range list {
			if r.R != batch[i] {
				t.Fatalf("%#x is read as %#x", batch[i], r.R)
			}
		}
		batch = batch[:0]
	}
	for r := rune(0); r <= 0x10ffff; r++ {
		if isRune(int64(r)) {
			batch = append(batch, r)
		}
		if len(batch) == api.MaxSource/4 || r == 0x10ffff {
			check()
		}
	}
}

func less(a, b api.Pos) bool { return a.Line < b.Line || a.Line == b.Line && a.Col < b.Col }

// P2.4: each rune's place is behind the one ahead of it, and Place tells the same ones
func TestPlacesRise(t *testing.T) {
	s := sower(123456789)
	for range 500 {
		src := s.soundText(s.below(120))
		list, fault := runes.Split(src)
		if fault != (api.Fault{}) {
			t.Fatalf("Split(%+q) tells %v", src, fault)
		}
		for i, r := range list {
			if i > 0 && !(less(list[i-1].At, r.At) && list[i-1].Off < r.Off) {
				t.Fatalf("%+q: %v stands behind %v", src, r, list[i-1])
			}
			if got := runes.Place(src, r.Off); got != r.At {
				t.Fatalf("Place(%+q, %d) = %v, want %v", src, r.Off, got, r.At)
			}
		}
	}
}

// P2.4: nor do places of bytes ever fall, be a text sound or not; the first ones are at 1, 1, the end is behind all
func TestPlacesOfBytesRise(t *testing.T) {
	s := sower(987654321)
	for range 1000 {
		src := s.anyText(s.below(40))
		last := runes.Place(src, -1)
		if last != (api.Pos{Line: 1, Col: 1}) {
			t.Fatalf("Place(%+q, -1) = %v", src, last)
		}
		for off := range len(src) {
			at := runes.Place(src, off)
			if less(at, last) {
				t.Fatalf("Place(%+q, %d) = %v, behind %v", src, off, at, last)
			}
			last = at
		}
		if end := runes.Place(src, len(src)); src != "" && !less(last, end) {
			t.Fatalf("the end of %+q is at %v, its last byte at %v", src, end, last)
		}
	}
}

// 0.5: what is told is new memory
func TestAnswersShareNothing(t *testing.T) {
	a, b := runes.Put(0xe9), runes.Put(0xe9)
	a[0] = 0
	if string(b) != "\xc3\xa9" || string(runes.Put(0xe9)) != "\xc3\xa9" {
		t.Error("bytes that Put told are shared")
	}
	l, _ := runes.Split("ab")
	m, _ := runes.Split("ab")
	l[0].R = 'x'
	again, _ := runes.Split("ab")
	if m[0].R != 'a' || again[0].R != 'a' {
		t.Error("runes that Split told are shared")
	}
}
