package name_test

import (
	"fmt"
	"strings"
	"testing"

	"cicerone/api"
	"cicerone/name"
)

// plain are the bytes that stand for themselves in a text.
const plain = "abcdefghijklmnopqrstuvwxyzABCDEFGHIJKLMNOPQRSTUVWXYZ0123456789-_*"

// written is a byte as a text has it.
func written(b int) string {
	if c := string([]byte{byte(b)}); strings.Contains(plain, c) {
		return c
	}
	return fmt.Sprintf("\\%03d", b)
}

func TestText(t *testing.T) {
	for b := range 256 {
		n, want := join("a", string([]byte{byte(b)})+"Z"), "a."+written(b)+"Z."
		if got := name.Text(n); got != want {
			t.Errorf("Text(%q) is %q", n, got)
		}
	}
	for n, want := range map[string]string{
		"\x00":                           ".",
		join("a"):                        "a.",
		join("www", "Example"):           "www.Example.",
		join("a.b"):                      "a\\046b.",
		join("a\\b c", "\x00"):           "a\\092b\\032c.\\000.",
		join("_x-*"):                     "_x-*.",
		join("\xc3\xa4"):                 "\\195\\164.",
		join(times(63)):                  times(63) + ".",
		ones(127):                        strings.Repeat("a.", 127),
		join(strings.Repeat("\xff", 63)): strings.Repeat("\\255", 63) + ".",
	} {
		if got := name.Text(n); got != want {
			t.Errorf("Text(%q) is %q", n, got)
		}
	}
}

// parses asks that the name of a text is this one.
func parses(t *testing.T, s, want string) {
	t.Helper()
	if n, e := name.Parse(s); n != want || e != api.OK {
		t.Errorf("Parse(%q) is %q, %d", s, n, e)
	}
}

// refuses asks that a text has no name, for this reason.
func refuses(t *testing.T, s string, want api.Errno) {
	t.Helper()
	if n, e := name.Parse(s); n != "" || e != want {
		t.Errorf("Parse(%q) is %q, %d", s, n, e)
	}
}

func TestParse(t *testing.T) {
	full, wide := times(63), strings.Repeat("\\255", 63)
	for s, want := range map[string]string{
		".":                           "\x00",
		"a.":                          join("a"),
		"www.Example.":                join("www", "Example"),
		"a\\046b.":                    join("a.b"),
		"\\046.":                      join("."),
		"\\092.":                      join("\\"),
		"\\097\\066c.":                join("aBc"),
		"\\0000.":                     join("\x000"),
		"\\2555\\1001.":               join("\xff5d1"),
		"_a.-b.*.":                    join("_a", "-b", "*"),
		full + ".":                    join(full),
		wide + ".":                    join(strings.Repeat("\xff", 63)),
		full + "." + full + ".":       join(full, full),
		strings.Repeat("a.", 127):     ones(127),
		strings.Repeat("\\097.", 127): ones(127),
		full + "." + full + "." + full + "." + times(61) + ".":                   join(full, full, full, times(61)),
		full + "." + full + "." + full + "." + strings.Repeat("\\120", 61) + ".": join(full, full, full, times(61)),
	} {
		parses(t, s, want)
	}
}

// Each byte by itself and each number behind \.
func TestParseBytes(t *testing.T) {
	for b := range 256 {
		one := string([]byte{byte(b)})
		if strings.Contains(plain, one) {
			parses(t, one+".", join(one))
			parses(t, "x."+one+"y.", join("x", one+"y"))
		} else {
			refuses(t, one+".", api.ErrLabel)
			refuses(t, "x."+one+"y.", api.ErrLabel)
		}
		parses(t, fmt.Sprintf("\\%03d.", b), join(one))
		parses(t, fmt.Sprintf("a\\%03db.c.", b), join("a"+one+"b", "c"))
	}
	for n := 256; n < 1000; n++ {
		refuses(t, fmt.Sprintf("\\%d.", n), api.ErrLabel)
		refuses(t, fmt.Sprintf("a\\%db.", n), api.ErrLabel)
	}
}

func TestParseWrong(t *testing.T) {
	full, wide := times(63), strings.Repeat("\\255", 63)
	for _, s := range []string{
		"", "a", "a.b", "www.Example", "..", ".a.", ". ", "a..", "a..b.", ".a", "...",
		"\\", "\\.", "\\\\.", "\\a.", "\\0.", "\\00.", "\\000", "\\00", "\\0", "\\01a.", "\\0x41.", "\\-01.", "\\+01.", "\\ 01.",
		"\\.046.", "a\\.b.", "a\\", "a.\\", "\\0:0.", "\\/00.", "\\00/.", "\\00:.", "\\25\xb5.", "\\\x00\x00\x00.",
		"a b.", " a.", "a. ", "a.\n", "a.\x00", "\x00", "\xff", "a\x00.", "\x03www\x00", "\xc3\xa4.", "(a).", "@.", "a/b.", "a+.",
		times(64) + ".", full + "x", full, "a." + times(64) + ".", times(64) + ".a.", times(64), times(300) + ".",
		wide + "x.", wide + "\\000.", "x" + wide + ".", strings.Repeat("\\120", 64) + ".",
		times(1 << 20), times(1<<20) + ".", strings.Repeat(".", 1<<20), strings.Repeat("\\", 1<<20),
	} {
		refuses(t, s, api.ErrLabel)
	}
}

func TestParseLong(t *testing.T) {
	full := times(63)
	three := full + "." + full + "." + full + "."
	for _, s := range []string{
		three + times(62) + ".",
		three + full + ".",
		times(62) + "." + three,
		three + strings.Repeat("\\120", 62) + ".",
		strings.Repeat("a.", 128),
		strings.Repeat("\\097.", 128),
		"aa." + strings.Repeat("a.", 126),
		strings.Repeat("a.", 1<<20),
	} {
		refuses(t, s, api.ErrName)
		// A label that can't be is named first, wherever it stands.
		for _, bad := range []string{"b", ".", "b c.", "\\256.", times(64) + "."} {
			refuses(t, s+bad, api.ErrLabel)
		}
		refuses(t, "b c."+s, api.ErrLabel)
	}
}
