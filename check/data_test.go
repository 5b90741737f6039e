package check

import (
	"reflect"
	"strings"
	"testing"

	"crucible/api"
)

func wantData(t *testing.T, src string, size int, want ...api.Fill) {
	t.Helper()
	c := wantRight(t, src)
	if c.Size != size || len(c.Data) != len(want) || len(want) > 0 && !reflect.DeepEqual(c.Data, want) {
		t.Errorf("%s: %d bytes, %+v, not %d, %+v", src, c.Size, c.Data, size, want)
	}
}

// Ck1: what globals are in the beginning.
func TestData(t *testing.T) {
	wantData(t, lastMain, 0)
	wantData(t, "int a; char b[3];"+lastMain, 8)
	wantData(t, "int a = 0; char b[3] = {0, 0}; uint c = 1 - 1; char d = 256; char e[] = \"\"; char f[2] = \"\\0\";"+lastMain, 24)
	wantData(t, "int a = 1; uint b = 0x12345678; char c = 'x'; int d = -2;"+lastMain, 16, api.Fill{At: 0, Bytes: "\x01\x00\x00\x00"}, api.Fill{At: 4, Bytes: "\x78\x56\x34\x12"}, api.Fill{At: 8, Bytes: "x"}, api.Fill{At: 12, Bytes: "\xfe\xff\xff\xff"})
	wantData(t, "char a; int b[4] = {0, 258, 0}; char c[9] = {1, 0, 300, 0}; char d[5] = \"ab\"; char e[] = \"a\\0\"; uint f[] = {3};"+lastMain, 48,
		api.Fill{At: 4, Bytes: "\x00\x00\x00\x00\x02\x01\x00\x00\x00\x00\x00\x00"}, api.Fill{At: 20, Bytes: "\x01\x00\x2c\x00"}, api.Fill{At: 32, Bytes: "ab"}, api.Fill{At: 40, Bytes: "a\x00"}, api.Fill{At: 44, Bytes: "\x03\x00\x00\x00"})
	wantData(t, "struct s { char a; int b; char c; } ; struct s v; char x = 1; struct s w; int y = 2;"+lastMain, 32, api.Fill{At: 12, Bytes: "\x01"}, api.Fill{At: 28, Bytes: "\x02\x00\x00\x00"})
}

// Ck1: constants, as they would be reckoned.
func TestConstants(t *testing.T) {
	for src, want := range map[string]string{
		"1 + 2 * 3": "\x07\x00\x00\x00", "-7 / 2": "\xfd\xff\xff\xff", "-7 % 2": "\xff\xff\xff\xff", "-7 / 2u": "\xfc\xff\xff\x7f", "1 << 33": "\x02\x00\x00\x00", "-8 >> 1": "\xfc\xff\xff\xff", "0u - 8 >> 1": "\xfc\xff\xff\x7f", "~0": "\xff\xff\xff\xff", "!0": "\x01\x00\x00\x00", "!5 + 1": "\x01\x00\x00\x00",
		"-1 < 1": "\x01\x00\x00\x00", "-1 > 1u": "\x01\x00\x00\x00", "2 >= 2": "\x01\x00\x00\x00", "(2 > 2) + 1": "\x01\x00\x00\x00", "3 != 4": "\x01\x00\x00\x00", "3 == 3": "\x01\x00\x00\x00", "6 & 3 | 8 ^ 1": "\x0b\x00\x00\x00",
		"(char)511 + 1": "\x00\x01\x00\x00", "(char)-1": "\xff\x00\x00\x00", "(int)(char)256 + 1": "\x01\x00\x00\x00", "sizeof(int) + 'a'": "\x65\x00\x00\x00", "sizeof(1 / 0)": "\x04\x00\x00\x00", "sizeof getbyte()": "\x04\x00\x00\x00",
		"1 && 2": "\x01\x00\x00\x00", "(0 && 1 / 0) + 1": "\x01\x00\x00\x00", "1 || 1 / 0": "\x01\x00\x00\x00", "0 || 2": "\x01\x00\x00\x00", "(0 || 0) + 1": "\x01\x00\x00\x00", "(2 && 0) + 1": "\x01\x00\x00\x00", "1 ? 5 : 1 / 0": "\x05\x00\x00\x00", "0 ? 1 / 0 : 6": "\x06\x00\x00\x00", "(1 ? -1 : 0u) / 2": "\xff\xff\xff\x7f",
		"0 && (1 / 0 || 1) || 3": "\x01\x00\x00\x00", "1 ? 0 ? 1 % 0 : 7 : 1 / 0": "\x07\x00\x00\x00", "-2147483647 - 1": "\x00\x00\x00\x80", "(-2147483647 - 1) / -1": "\x00\x00\x00\x80", "4294967295": "\xff\xff\xff\xff", "2147483647 + 1": "\x00\x00\x00\x80",
		"((-2147483647 - 1) % -1) + 1": "\x01\x00\x00\x00", "1 || (1 && 1 / 0)": "\x01\x00\x00\x00", "1 || (0 || 1 % 0)": "\x01\x00\x00\x00", "0 ? 1 / 0 && 1 : 6": "\x06\x00\x00\x00", "0 ? 1 / 0 || 1 : 6": "\x06\x00\x00\x00", "1 ? 7 : 1 / 0 ? 1 : 2": "\x07\x00\x00\x00", "0 ? 1 ? 1 / 0 : 2 : 8": "\x08\x00\x00\x00", "1 || -(1 / 0) + 1": "\x01\x00\x00\x00", "1 || (char)(1 / 0)": "\x01\x00\x00\x00",
	} {
		wantData(t, "int v = "+src+";"+lastMain, 4, api.Fill{Bytes: want})
		wantData(t, "uint v[2] = {0, "+src+"};"+lastMain, 8, api.Fill{Bytes: "\x00\x00\x00\x00" + want})
		if want[0] != 0 {
			wantData(t, "char v = "+src+";"+lastMain, 4, api.Fill{Bytes: want[:1]})
		}
	}
	for _, src := range []string{
		"1 / 0", "1 % 0", "1u / 0", "1 % 0u", "1 + 1 / 0", "1 / 0 + 1", "-(1 / 0)", "!(1 % 0)", "~(1 / 0)", "(char)(1 / 0)", "1 / 0 && 0", "0 || 1 / 0", "1 && 1 / 0", "1 / 0 || 1", "1 / 0 ? 1 : 2", "1 ? 1 / 0 : 2", "0 ? 2 : 1 / 0", "1 / 0 < 1", "1 > 1 / 0", "1 << 1 / 0", "1 / (1 - 1)", "1 / (char)256", "1 ? 0 ? 1 : 1 / 0 : 2",
		"w", "1 + w", "-w", "0 && w", "1 || w", "1 ? 1 : w", "0 ? w : 1", "w ? 1 : 2", "w && 0", "(char)w", "w = 1", "w += 1", "a[0]", "0 && a[0]", "s.m", "getbyte()", "1 || getbyte()", "0 ? w = 1 : 2", "1 / 0 ? w : 1", "0 && (1 / 0 + w)", "sizeof w + w",
	} {
		wantWrong(t, "int w; int a[2]; struct s { int m; }; struct s s; int v = @"+src+";"+lastMain, "int w; int a[2]; struct s { int m; }; struct s s; int v[2] = {1, @"+src+"};"+lastMain, "int w; int a[2]; struct s { int m; }; struct s s; int v[@"+src+"];"+lastMain, "int w; int a[2]; struct s { int m; }; struct s s; int main() { int v[@"+src+"]; return 0; }")
		wantRight(t, "int w; int a[2]; struct s { int m; }; struct s s; int main() { int v = "+src+"; int u[2] = {1, "+src+"}; return "+src+"; }")
	}
	wantWrong(t, "struct s { int x[@0 && 1 / 0]; };"+lastMain, "struct s { int x[@1 / 0]; };"+lastMain)
}

// Ck1: strings that are arguments are globals behind all others, in the order in which they are met.
func TestStrings(t *testing.T) {
	c := wantRight(t, `char a = 1; void f(char x[], char y[]) { } void g(char x[]) { f("one", ""); g("two"); } int b; int main() { f("one", "t\0"); { g(""); } return sizeof h("six"); } int h(char x[]) { return 1; } char z = 2;`)
	var got []string
	for _, v := range c.Globals {
		got = append(got, v.Name)
		if v.Name == "" && (v.Type.Kind != api.TypeArray || v.Type.Elem != api.TypeChar) {
			t.Errorf("a string: %+v", v)
		}
	}
	if strings.Join(got, ",") != "a,b,z,,,,,,," {
		t.Errorf("names: %q", got)
	}
	var lens []int
	for _, v := range c.Globals[3:] {
		lens = append(lens, v.Type.Len)
	}
	if !reflect.DeepEqual(lens, []int{4, 1, 4, 4, 3, 1, 4}) {
		t.Errorf("lengths: %v", lens)
	}
	want := []api.Fill{{At: 0, Bytes: "\x01"}, {At: 8, Bytes: "\x02"}, {At: 12, Bytes: "one\x00"}, {At: 20, Bytes: "two\x00"}, {At: 24, Bytes: "one\x00"}, {At: 28, Bytes: "t\x00\x00"}, {At: 36, Bytes: "six\x00"}}
	if !reflect.DeepEqual(c.Data, want) || c.Size != 40 {
		t.Errorf("data: %+v, %d", c.Data, c.Size)
	}
	if body := spell(c.Routines[2].Body); body != "(block (eval (call f0 (array g6 len=4 of=char) (array g7 len=3 of=char))) (block (eval (call f1 (array g8 len=1 of=char)))) (return (conv:int (const:uint 4))))" {
		t.Errorf("main: %s", body)
	}
	if body := spell(c.Routines[1].Body); body != "(block (eval (call f0 (array g3 len=4 of=char) (array g4 len=1 of=char))) (eval (call f1 (array g5 len=4 of=char))))" {
		t.Errorf("g: %s", body)
	}
}
