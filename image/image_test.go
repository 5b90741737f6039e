package image

import (
	"encoding/binary"
	"math"
	"math/rand"
	"strings"
	"testing"

	"crucible/api"
	"crucible/machine"
)

// parts is what an image's bytes are made of, right or wrong: the tests lay them by hand.
type parts struct {
	mark                                  string
	code, data, global, entry, frame, sum uint32
	rest                                  string
}

func (p parts) text() string {
	b := []byte(p.mark)
	for _, w := range []uint32{p.code, p.data, p.global, p.entry, p.frame, p.sum} {
		b = binary.LittleEndian.AppendUint32(b, w)
	}
	return string(b) + p.rest
}

// partsOf is an image's parts as the chapter lays them.
func partsOf(im api.Image) parts {
	p := parts{
		mark: "R32\n",
		code: uint32(len(im.Code)), data: uint32(len(im.Data)),
		global: uint32(im.Global), entry: uint32(im.Entry), frame: uint32(im.Frame),
		rest: im.Code + im.Data,
	}
	for _, c := range []byte(p.rest) {
		p.sum += uint32(c)
	}
	return p
}

// expectBoth holds Write and Read of an image against the chapter's layout.
func expectBoth(t *testing.T, name string, im api.Image) {
	t.Helper()
	want := partsOf(im).text()
	s, err := Write(im)
	if s != want || err != api.OK {
		t.Errorf("%s: Write tells %d bytes, %d, not the %d of the layout", name, len(s), err, len(want))
	}
	if back, err := Read(want); back != im || err != api.OK {
		t.Errorf("%s: Read tells another image, or %d", name, err)
	}
}

func expectRefusedWrite(t *testing.T, name string, im api.Image, want api.Errno) {
	t.Helper()
	if s, err := Write(im); s != "" || err != want {
		t.Errorf("%s: Write tells %d bytes, %d, not %d alone", name, len(s), err, want)
	}
}

func expectRefusedRead(t *testing.T, name, s string, want api.Errno) {
	t.Helper()
	if im, err := Read(s); im != (api.Image{}) || err != want {
		t.Errorf("%s: Read tells an image of %d bytes of Code, %d, not %d alone", name, len(im.Code), err, want)
	}
}

// some is an image whose parts are all unlike each other and not 0.
func some() api.Image {
	return api.Image{Code: "\xff\xfe\xfd\xfcabcd\x00\x01\x02\x03", Data: "\x80\x00xyz", Global: 0x0a07, Entry: 8, Frame: 0x0b05}
}

func TestWriteLayout(t *testing.T) {
	want := "R32\n" +
		"\x0c\x00\x00\x00" + // Code: 12 bytes
		"\x05\x00\x00\x00" + // Data: 5 bytes
		"\x07\x0a\x00\x00" + // Global
		"\x08\x00\x00\x00" + // Entry
		"\x05\x0b\x00\x00" + // Frame
		"\x71\x07\x00\x00" + // the sum: 1414 of Code and 491 of Data
		"\xff\xfe\xfd\xfcabcd\x00\x01\x02\x03" +
		"\x80\x00xyz"
	s, err := Write(some())
	if err != api.OK || len(s) != len(want) {
		t.Fatalf("Write: %d bytes, %d, not %d bytes", len(s), err, len(want))
	}
	for i := range len(want) {
		if s[i] != want[i] {
			t.Errorf("the byte at %d is %#x, not %#x", i, s[i], want[i])
		}
	}
}

func TestOneWord(t *testing.T) {
	im := api.Image{Code: "\x00\x00\x00\x2f"}
	s, err := Write(im)
	if len(s) != 32 || err != api.OK {
		t.Errorf("Code of one word: %d bytes, %d, not 32", len(s), err)
	}
	expectBoth(t, "Code of one word", im)
}

// ramp is n bytes, of which neighbors differ.
func ramp(n int) string {
	b := make([]byte, n)
	for i := range b {
		b[i] = byte(i*7 + i>>8)
	}
	return string(b)
}

func TestWrittenAndReadBack(t *testing.T) {
	expectBoth(t, "some", some())
	word := "\x01\x02\x03\x04"
	greatest := api.MaxImage - 28
	for name, im := range map[string]api.Image{
		"Data of no byte, Global of some":   {Code: word, Global: 9},
		"Data of Global bytes":              {Code: word, Data: "abc", Global: 3},
		"Data of the greatest Global":       {Code: word, Data: ramp(1 << 16), Global: 1 << 16},
		"Data below the greatest Global":    {Code: word, Data: ramp(1<<16 - 1), Global: 1 << 16},
		"Data that is zero":                 {Code: word, Data: "\x00\x00", Global: 2},
		"Global, Entry, Frame least":        {Code: ramp(400)},
		"Global, Frame greatest":            {Code: ramp(400), Global: 1 << 16, Frame: 1 << 16},
		"Entry greatest":                    {Code: ramp(400), Entry: 396},
		"Entry greatest of greatest Code":   {Code: ramp(greatest), Entry: greatest - 4},
		"all greatest":                      {Code: ramp(greatest - 1<<16), Data: ramp(1 << 16), Global: 1 << 16, Entry: greatest - 1<<16 - 4, Frame: 1 << 16},
		"a sum of 0":                        {Code: "\x00\x00\x00\x00", Data: "\x00", Global: 1},
		"a sum of just a byte":              {Code: "\xff\x00\x00\x00"},
		"a sum of a byte and 1":             {Code: "\xff\x01\x00\x00"},
		"a sum of a byte and 1, by Data":    {Code: "\xff\x00\x00\x00", Data: "\x01", Global: 1},
		"a sum above 2^16":                  {Code: strings.Repeat("\xff", 1024)},
		"a sum above 2^24":                  {Code: strings.Repeat("\xff", 1<<17)},
		"the greatest sum":                  {Code: strings.Repeat("\xff", greatest)},
		"Code that looks like an image":     {Code: "R32\nR32\n", Data: "R32\n", Global: 4},
		"Code that is no text of runes":     {Code: "\xc3\x28\xa0\xa1", Data: "\xe2\x82", Global: 2},
		"Code of instructions that are not": {Code: strings.Repeat("\xff", 8), Entry: 4},
	} {
		expectBoth(t, name, im)
	}
}

func TestMostBytes(t *testing.T) {
	full := api.Image{Code: ramp(api.MaxImage - 28)}
	if s, err := Write(full); len(s) != 1<<20 || err != api.OK {
		t.Errorf("just as many bytes as may be: %d, %d", len(s), err)
	}
	expectBoth(t, "just as many bytes as may be", full)
	byData := api.Image{Code: ramp(api.MaxImage - 32), Data: "abcd", Global: 4}
	expectBoth(t, "just as many bytes as may be, by Data", byData)

	full.Data, full.Global = "x", 1
	expectRefusedWrite(t, "one byte more", full, api.ErrLong)
	expectRefusedRead(t, "one byte more", partsOf(full).text(), api.ErrLong)
	byData.Data, byData.Global = "abcde", 5
	expectRefusedWrite(t, "one byte more, by Data", byData, api.ErrLong)
	expectRefusedWrite(t, "one word more", api.Image{Code: ramp(api.MaxImage - 24)}, api.ErrLong)
	expectRefusedWrite(t, "the greatest Code", api.Image{Code: ramp(api.MaxImage)}, api.ErrLong)
	expectRefusedWrite(t, "all greatest", api.Image{Code: ramp(api.MaxImage), Data: ramp(1 << 16), Global: 1 << 16}, api.ErrLong)
}

// wrong is each way in which an image may not be, and that alone.
func wrong() map[string]api.Image {
	word := "\x01\x02\x03\x04"
	return map[string]api.Image{
		"nothing":                 {},
		"no Code":                 {Data: "ab", Global: 2},
		"Code of 1 byte":          {Code: "a"},
		"Code of 3 bytes":         {Code: "abc"},
		"Code of 5 bytes":         {Code: "abcde"},
		"Code of 6 bytes":         {Code: "abcdef"},
		"Global below 0":          {Code: word, Global: -1},
		"Global least":            {Code: word, Global: math.MinInt},
		"Global too great":        {Code: word, Global: 1<<16 + 1},
		"Global of 2^32":          {Code: word, Global: 1 << 32},
		"Global greatest":         {Code: word, Global: math.MaxInt},
		"Data without Global":     {Code: word, Data: "a"},
		"Data longer than Global": {Code: word, Data: "abcd", Global: 3},
		"Data too long for any":   {Code: word, Data: ramp(1<<16 + 1), Global: 1 << 16},
		"Entry below 0":           {Code: word, Entry: -4},
		"Entry least":             {Code: word, Entry: math.MinInt},
		"Entry between words":     {Code: "abcdefgh", Entry: 2},
		"Entry at Code's end":     {Code: word, Entry: 4},
		"Entry of 2^32":           {Code: word, Entry: 1 << 32},
		"Entry greatest":          {Code: word, Entry: math.MaxInt - 3},
		"Frame below 0":           {Code: word, Frame: -1},
		"Frame least":             {Code: word, Frame: math.MinInt},
		"Frame too great":         {Code: word, Frame: 1<<16 + 1},
		"Frame of 2^32":           {Code: word, Frame: 1 << 32},
		"Frame greatest":          {Code: word, Frame: math.MaxInt},
	}
}

func TestWriteRefusesImagesThatMayNotBe(t *testing.T) {
	for name, im := range wrong() {
		expectRefusedWrite(t, name, im, api.ErrArg)
	}
	// Where both apply, ErrArg is the one that is named first.
	for name, im := range map[string]api.Image{
		"Code longer than may be":       {Code: ramp(api.MaxImage + 4)},
		"Code a byte longer":            {Code: ramp(api.MaxImage + 1)},
		"long, and Code is no words":    {Code: ramp(api.MaxImage - 1)},
		"long, and Frame too great":     {Code: ramp(api.MaxImage), Frame: 1<<16 + 1},
		"long, and Entry between words": {Code: ramp(api.MaxImage), Entry: 1},
		"long, and Data without Global": {Code: ramp(api.MaxImage), Data: "a"},
	} {
		expectRefusedWrite(t, name, im, api.ErrArg)
	}
}

func TestReadRefusesImagesThatMayNotBe(t *testing.T) {
	for name, im := range wrong() {
		if big(im.Global) || big(im.Entry) || big(im.Frame) {
			continue // four bytes can't say it
		}
		expectRefusedRead(t, name, partsOf(im).text(), api.ErrText)
	}
}

// big tells whether a number is one of those whose lower 32 bits may be all right.
func big(n int) bool { return n > math.MaxUint32 || n < math.MinInt32 }

func TestReadRefusesCutTexts(t *testing.T) {
	s := partsOf(some()).text()
	for n := range len(s) {
		expectRefusedRead(t, "cut", s[:n], api.ErrText)
		expectRefusedRead(t, "cut ahead", s[n+1:], api.ErrText)
	}
	for _, more := range []string{"\x00", "x", "\x00\x00\x00\x00", "R32\n", s} {
		expectRefusedRead(t, "bytes behind the end", s+more, api.ErrText)
		expectRefusedRead(t, "bytes ahead", more+s, api.ErrText)
	}
	// The head alone, of an image that would have nothing.
	expectRefusedRead(t, "a head alone", "R32\n"+strings.Repeat("\x00", 24), api.ErrText)
}

func TestReadRefusesOtherBeginnings(t *testing.T) {
	for _, mark := range []string{"r32\n", "R23\n", "R31\n", "R32\r", "R32 ", "R32\x00", "\n23R", "R64\n", "\x00\x00\x00\x00", "R32", "R32\n\n", ""} {
		p := partsOf(some())
		p.mark = mark
		expectRefusedRead(t, "the beginning "+mark, p.text(), api.ErrText)
	}
}

// lengths are such that are none, or that wrap round to a small one.
var lengths = []uint32{0, 1, 3, 4, 8, 11, 13, 16, 17, 20, 1 << 16, 1<<20 - 28, 1 << 20, 1<<20 + 1, math.MaxInt32, 1 << 31, math.MaxUint32 - 11, math.MaxUint32 - 4, math.MaxUint32 - 3, math.MaxUint32}

func TestReadRefusesOtherLengths(t *testing.T) {
	right := partsOf(some())
	for _, n := range lengths {
		p := right
		p.code = n
		if n != right.code {
			expectRefusedRead(t, "another length of Code", p.text(), api.ErrText)
		}
		p = right
		p.data = n
		if n != right.data {
			expectRefusedRead(t, "another length of Data", p.text(), api.ErrText)
		}
		// Both together would be just what follows, if they were added modulo 2^32.
		p = right
		p.code, p.data = n, uint32(len(p.rest))-n
		if n != 8 && n != right.code && n != 16 {
			expectRefusedRead(t, "lengths that wrap round", p.text(), api.ErrText)
		}
	}
}

// A border between Code and Data that is another one is another image: both are told as they stand.
func TestReadAtOtherBorders(t *testing.T) {
	for _, n := range []int{8, 12, 16} {
		p := partsOf(some())
		p.code, p.data, p.entry = uint32(n), uint32(len(p.rest)-n), 4
		im, err := Read(p.text())
		want := api.Image{Code: p.rest[:n], Data: p.rest[n:], Global: some().Global, Entry: 4, Frame: some().Frame}
		if im != want || err != api.OK {
			t.Errorf("Code of %d bytes: %+v, %d", n, im, err)
		}
	}
}

func TestReadRefusesOtherSums(t *testing.T) {
	right := partsOf(some())
	for _, more := range []uint32{1, 2, 255, 256, 1 << 16, 1 << 24, 1 << 31, math.MaxUint32, -right.sum} {
		p := right
		p.sum += more
		expectRefusedRead(t, "another sum", p.text(), api.ErrText)
	}
	// A sum of the lower byte, of Code or of Data alone, or of words would not be the chapter's.
	for _, sum := range []uint32{right.sum & 255, right.sum & 0xffff >> 8, partsOf(api.Image{Code: some().Code}).sum, partsOf(api.Image{Code: some().Data}).sum} {
		p := right
		p.sum = sum
		expectRefusedRead(t, "another sum", p.text(), api.ErrText)
	}
	// Bytes that change places have the same sum, and are another image.
	p := right
	p.rest = p.rest[1:2] + p.rest[:1] + p.rest[2:]
	if im, err := Read(p.text()); err != api.OK || im == some() || im.Code != p.rest[:12] {
		t.Errorf("bytes that changed places: %+v, %d", im, err)
	}
}

func TestReadRefusesGreatNumbers(t *testing.T) {
	for _, n := range []uint32{1<<16 + 1, 1 << 17, 1 << 20, 1 << 24, math.MaxInt32, 1 << 31, math.MaxUint32 - 3, math.MaxUint32} {
		p := partsOf(some())
		p.global = n
		expectRefusedRead(t, "Global", p.text(), api.ErrText)
		p = partsOf(some())
		p.entry = n &^ 3
		expectRefusedRead(t, "Entry", p.text(), api.ErrText)
		p = partsOf(some())
		p.frame = n
		expectRefusedRead(t, "Frame", p.text(), api.ErrText)
	}
	for _, n := range []uint32{1, 2, 3, 5, 9, 11, 12, 13, 16} {
		p := partsOf(some())
		p.entry = n
		expectRefusedRead(t, "Entry", p.text(), api.ErrText)
	}
	for _, n := range []uint32{0, 4} {
		p := partsOf(some())
		p.global = n
		expectRefusedRead(t, "Global below Data's length", p.text(), api.ErrText)
	}
}

func TestReadRefusesLongTexts(t *testing.T) {
	for name, s := range map[string]string{
		"zeros":                strings.Repeat("\x00", api.MaxImage+1),
		"an image, and zeros":  partsOf(some()).text() + strings.Repeat("\x00", api.MaxImage),
		"many":                 strings.Repeat("R32\n", api.MaxImage),
		"an image of too much": partsOf(api.Image{Code: ramp(api.MaxImage)}).text(),
	} {
		expectRefusedRead(t, name, s, api.ErrLong)
	}
	expectRefusedRead(t, "as many zeros as may be", strings.Repeat("\x00", api.MaxImage), api.ErrText)
	expectRefusedRead(t, "an image, filled up with zeros", partsOf(some()).text()+strings.Repeat("\x00", api.MaxImage-28-17), api.ErrText)
}

// Each byte of an image's bytes, as each other one: another image, whose bytes are these, or none.
func TestOneByteTurned(t *testing.T) {
	for _, im := range []api.Image{some(), {Code: "\x00\x00\x00\x2f"}, {Code: "abcdefgh", Data: "R32\n", Global: 1 << 16, Entry: 4, Frame: 1 << 16}} {
		s := partsOf(im).text()
		none := 0
		for at := range len(s) {
			for turn := 1; turn < 256; turn++ {
				other := s[:at] + string([]byte{s[at] ^ byte(turn)}) + s[at+1:]
				if !expectOther(t, im, other) {
					none++
					continue
				}
				if at < 12 || at >= 24 {
					t.Errorf("the byte at %d as %#x is an image", at, other[at])
				}
			}
		}
		if none == 0 {
			t.Error("nothing was refused")
		}
	}
}

// expectOther tells whether a text is an image, which must be another one.
func expectOther(t *testing.T, im api.Image, s string) bool {
	t.Helper()
	back, err := Read(s)
	if err != api.OK {
		if err != api.ErrText || back != (api.Image{}) {
			t.Errorf("Read(%q): %+v, %d", s, back, err)
		}
		return false
	}
	if back == im {
		t.Errorf("Read(%q) is the same image", s)
	}
	if again, err := Write(back); again != s || err != api.OK {
		t.Errorf("Write of Read(%q): %q, %d", s, again, err)
	}
	return true
}

// Read of Write is the image, and Write of Read the bytes, at images and texts of all kinds.
func TestThereAndBack(t *testing.T) {
	r := rand.New(rand.NewSource(5))
	for range 2000 {
		code := make([]byte, 4*(1+r.Intn(40)))
		data := make([]byte, r.Intn(60))
		r.Read(code)
		r.Read(data)
		im := api.Image{
			Code: string(code), Data: string(data),
			Global: len(data) + r.Intn(1<<16-60),
			Entry:  4 * r.Intn(len(code)/4),
			Frame:  r.Intn(1<<16 + 1),
		}
		expectBoth(t, "an image", im)
	}
	images := 0
	for range 50000 {
		p := parts{mark: "R32\n", code: uint32(r.Intn(3)) * 4, data: uint32(r.Intn(3)), global: uint32(r.Intn(4)), entry: uint32(r.Intn(9)), frame: uint32(r.Intn(1 << 17))}
		p.rest = strings.Repeat("\x01", int(p.code+p.data)+r.Intn(3)/2)
		p.sum = p.code + p.data + uint32(r.Intn(3)/2)
		s := p.text()
		im, err := Read(s)
		if ok := mayBe(p); ok != (err == api.OK) {
			t.Fatalf("Read(%q): %d", s, err)
		}
		if err != api.OK {
			continue
		}
		images++
		if again, err := Write(im); again != s || err != api.OK {
			t.Fatalf("Write of Read(%q): %q, %d", s, again, err)
		}
	}
	if images < 100 {
		t.Errorf("just %d texts were images", images)
	}
}

// mayBe tells whether parts with a rest of ones are an image's, as the chapters say it.
func mayBe(p parts) bool {
	n := uint32(len(p.rest))
	return p.code >= 4 && p.code+p.data == n && p.sum == n && p.data <= p.global && p.entry%4 == 0 && p.entry < p.code && p.frame <= 1<<16
}

// What was written and read runs as the image does.
func TestRunsAlike(t *testing.T) {
	im := api.Image{Code: "\x00\x00\x00\x2f", Data: "ab", Global: 4, Frame: 7}
	s, err := Write(im)
	if err != api.OK {
		t.Fatal(err)
	}
	back, err := Read(s)
	if err != api.OK {
		t.Fatal(err)
	}
	want, _ := machine.Run(im, "", 10)
	if got, err := machine.Run(back, "", 10); got != want || err != api.OK {
		t.Errorf("%+v, %d, not %+v", got, err, want)
	}
}
