package stall_test

import (
	"strings"
	"testing"

	"bibelot/api"
	"bibelot/stall"
)

func TestLongLines(t *testing.T) {
	s := stall.New()
	for _, x := range []struct {
		line, want string
	}{
		{strings.Repeat("a", 512), "error 100"},
		{strings.Repeat("a", 513), "error 2"},
		{"#" + strings.Repeat("a", 511), ""},
		{"#" + strings.Repeat("a", 512), "error 2"},
		{"##" + strings.Repeat("\u20ac", 170), ""}, // 512 bytes
		{"###" + strings.Repeat("\u20ac", 170), "error 2"},
		{strings.Repeat("\u20ac", 171), "error 2"},
		{strings.Repeat(" ", 512), "error 100"},
		{strings.Repeat(" ", 513), "error 2"},
		{strings.Repeat("a", 1<<20), "error 2"},
		{"flip" + strings.Repeat(" 2", 254), "error 100"},
		{"flip" + strings.Repeat(" 2", 255), "error 2"},
		{"\n", "error 2"}, {"#\n", "error 2"}, {"\n#", "error 2"}, {"flip 2\n", "error 2"}, {"\nflip 2", "error 2"}, {"flip\n2", "error 2"}, {"cakes\n", "error 2"}, {"cakes\ncakes", "error 2"}, {"what\n", "error 2"},
	} {
		if got := s.Do(x.line); got != x.want {
			t.Errorf("%d bytes %.20q: %q, want %q", len(x.line), x.line, got, x.want)
		}
	}
	wantLook(t, "behind long lines", s, look(stall.New()))
}

func TestRemarks(t *testing.T) {
	s := stall.New()
	for _, line := range []string{"", "#", "##", "# a note", "#flip 2", "# flip 2", "#\t\r\x00\xff", "#  two blanks ", "# 01"} {
		if got := s.Do(line); got != "" {
			t.Errorf("%q: %q", line, got)
		}
	}
	for _, line := range []string{" ", "  ", " #", "\t", "\r", "\x00", "\xff", "flip 2 #", "flip 2 # a note", "cakes #", "cakes#"} {
		if got := s.Do(line); got != "error 100" {
			t.Errorf("%q: %q", line, got)
		}
	}
	wantLook(t, "behind remarks", s, look(stall.New()))
}

func TestFirstWords(t *testing.T) {
	s := with(t, all...)
	want := look(s)
	for _, line := range []string{"what", "a", "0", "-", "Flip 2", "FLIP 2", "flips 2", "fli 2", "flip2", "flip,2", "sum", "sumss", "Sums", "cake", "kinds", "book", "dice", "stack", "do cakes", "ok", "error 4", "new", "fork", "run", "ring\x00", "c\u0430kes", "jum\xff 2 1 0", "undo", "dies a 1", "di a 1", "sells a", "jumps 6 5 4", "discs 0 0", "presses 1", "writes 2 2 1", "wires 1 2", "sees 1 1 1 1", "beat a b", "rings", "peg", "towers", "darks", "fills", "tastes", "shares"} {
		if got := s.Do(line); got != "error 100" {
			t.Errorf("%q: %q", line, got)
		}
	}
	wantLook(t, "behind nonsense", s, want)
}

// good is for each first word what may follow it, as a line that is not refused with ErrLine.
var good = []string{"die d 1 2 3", "sell a", "jump 6 5 4", "disc 0 0", "press 1", "write 2 2 1", "flip 2", "wire 1 2", "see 1 1 1 1", "sums", "beats a b", "ring", "pegs", "tower", "dark", "fill", "cakes", "kind", "taste", "share"}

func TestWords(t *testing.T) {
	for _, line := range good {
		s := with(t, all...)
		if got := s.Fork().Do(line); strings.HasPrefix(got, "error") {
			t.Errorf("%q: %q", line, got)
		}
		before := look(s)
		list := strings.Split(line, " ")
		bad := []string{" " + line, line + " ", line + "\t", line + "\r", line + " a", line + " -", line + " A", line + "  1", line + " #", strings.ToUpper(line), strings.Replace(line, list[0], strings.ToUpper(list[0]), 1)}
		if list[0] != "die" {
			bad = append(bad, line+" 1")
		}
		for i := 1; i < len(list); i++ {
			bad = append(bad, strings.Join(list[:i], " ")+"  "+strings.Join(list[i:], " "), strings.Join(list[:i], " ")+"\t"+strings.Join(list[i:], " "))
			if list[0] != "die" || i == 1 {
				bad = append(bad, strings.Join(append(append([]string{}, list[:i]...), list[i+1:]...), " "), strings.Join(list[:i], " "))
			}
			other := "a"
			if list[i][0] >= 'a' {
				other = "1"
			}
			for _, word := range []string{other, "", "-", "A", "aA", "1a", "a1", "01", "-0", "+1", "1.0", "1_0", "0x1", "\u0661", "\u00e9", "1000001", "-1000001"} {
				changed := append([]string{}, list...)
				changed[i] = word
				bad = append(bad, strings.Join(changed, " "))
			}
		}
		for _, line := range bad {
			if got := s.Do(line); got != "error 100" {
				t.Errorf("%q: %q", line, got)
			}
		}
		wantLook(t, "behind what is not "+line, s, before)
	}
}

func TestNames(t *testing.T) {
	play(t, stall.New(), `
die abcdefghijkl 1 -> ok
die mnopqrstuvwx 2 -> ok
die yz 3 -> ok
die abcdefghijklm 1 -> error 100
die aaaaaaaaaaaaa 1 -> error 100
sell abcdefghijklm -> error 100
beats abcdefghijkl yz -> beats 0 1
beats yz abcdefghijklm -> error 100
beats abcdefghijklm yz -> error 100
sell aaaaaaaaaaaa -> error 4
beats yz aaaaaaaaaaaa -> error 4
beats aaaaaaaaaaaa yz -> error 4
die a-b 1 -> error 100
die a_b 1 -> error 100
die a1 1 -> error 100
die aB 1 -> error 100
die Ab 1 -> error 100
die `+"a`"+` 1 -> error 100
die { 1 -> error 100
die die 1 -> ok
die sums 1 -> ok
die ok 1 -> ok
beats die sums -> beats 0 0
sell die -> ok
die  1 -> error 100
die a  -> error 100
`)
	for _, name := range []string{"\u00e9", "a\u00e9", "\u0430", "a\x00", "\xff", "a\xff", "\u00ff"} {
		for _, line := range []string{"die " + name + " 1", "sell " + name, "beats " + name + " a", "beats a " + name} {
			if got := stall.New().Do(line); got != "error 100" {
				t.Errorf("%q: %q", line, got)
			}
		}
	}
}

func TestNumbers(t *testing.T) {
	for number, want := range map[string]string{
		"0": "ok", "1": "ok", "8": "ok", "9": "error 1", "-1": "error 1", "10": "error 1", "-10": "error 1", "999999": "error 1", "1000000": "error 1", "-1000000": "error 1", "-999999": "error 1", "64": "error 1", "256": "error 1", "65536": "error 1",
		"1000001": "error 100", "-1000001": "error 100", "2000000": "error 100", "10000000": "error 100", "4294967296": "error 100", "4294967297": "error 100", "-4294967295": "error 100", "18446744073709551616": "error 100", "18446744073709551617": "error 100", "-18446744073709551615": "error 100", "9223372036854775807": "error 100", "-9223372036854775808": "error 100", "340282366920938463463374607431768211456": "error 100",
		"00": "error 100", "01": "error 100", "001": "error 100", "-01": "error 100", "-00": "error 100", "-0": "error 100", "+0": "error 100", "+1": "error 100", "--1": "error 100", "-": "error 100", "+": "error 100", "1-": "error 100", "1.": "error 100", ".1": "error 100", "1.0": "error 100", "1e0": "error 100", "0x1": "error 100", "0b1": "error 100", "0o1": "error 100", "1_0": "error 100", "1,0": "error 100", "\u0661": "error 100", "\uff11": "error 100", "1\x00": "error 100", "\u22121": "error 100", "one": "error 100", "": "error 100", "0000001": "error 100", "1 ": "error 100", " 1": "error 100",
	} {
		if got := stall.New().Do("press " + number); got != want {
			t.Errorf("press %q: %q, want %q", number, got, want)
		}
	}
}

func TestRun(t *testing.T) {
	remarks := strings.Repeat(strings.Repeat("#", 511)+"\n", 128) // 65536 bytes
	for _, x := range []struct {
		text, want string
		e          api.Errno
	}{
		{"# a stall\nflip 2\n\ncakes\nwhat", "ok\ncakes 1\nerror 100\n", api.OK},
		{"", "", api.OK}, {"\n", "", api.OK}, {"# a note", "", api.OK}, {"\n\n#\n\n", "", api.OK},
		{"cakes", "cakes 0\n", api.OK}, {"cakes\n", "cakes 0\n", api.OK}, {"\ncakes", "cakes 0\n", api.OK}, {"cakes\n\n\ncakes\n", "cakes 0\ncakes 0\n", api.OK},
		{"cakes\r\nflip 2\r\ncakes", "error 100\nerror 100\ncakes 0\n", api.OK},
		{" \n", "error 100\n", api.OK},
		{"die a 2 4 9\ndie b 1 6 8\ndie c 3 5 7\nring\nbeats a b\nsell c\nring\nsums\n", "ok\nok\nok\nring yes\nbeats 5 4\nok\nring no\nsums 3:1 5:1 8:1 10:3 12:1 15:1 17:1\n", api.OK},
		{"flip 2\n" + strings.Repeat("#", 513) + "\ncakes\n" + strings.Repeat("#", 512) + "\ncakes\n", "ok\nerror 2\ncakes 1\ncakes 1\n", api.OK},
		{strings.Repeat("a", 65536), "error 2\n", api.OK}, {strings.Repeat("a", 65537), "", api.ErrLong}, {strings.Repeat("\u20ac", 21846), "", api.ErrLong},
		{remarks, "", api.OK}, {remarks[1:] + "\n", "", api.OK}, {remarks + "a", "", api.ErrLong}, {remarks + "\n", "", api.ErrLong}, {remarks[6:] + "cakes\n", "cakes 0\n", api.OK}, {"cakes\n" + remarks, "", api.ErrLong},
		{strings.Repeat("\n", 2000), "", api.OK}, {strings.Repeat("\n", 2001), "", api.ErrLong},
		{strings.Repeat("\n", 2000) + "cakes", "cakes 0\n", api.OK}, {"cakes\n" + strings.Repeat("\n", 2000), "", api.ErrLong},
		{strings.Repeat("cakes\n", 2000) + "cakes", strings.Repeat("cakes 0\n", 2001), api.OK}, {strings.Repeat("cakes\n", 2001), "", api.ErrLong},
		{strings.Repeat("flip 2\n", 1999) + "cakes\n", strings.Repeat("ok\n", 1999) + "cakes 1\n", api.OK},
		{strings.Repeat("\n", 65537), "", api.ErrLong},
	} {
		for range 2 { // always with a new stall
			if got, e := stall.Run(x.text); got != x.want || e != x.e {
				t.Errorf("Run of %d bytes %.40q: %.60q, %d, want %.60q, %d", len(x.text), x.text, got, e, x.want, x.e)
			}
		}
	}
}

// Run does what Do does, line by line.
func TestRunIsDo(t *testing.T) {
	pick := numbers(3)
	for range 60 {
		s := stall.New()
		var lines []string
		want := ""
		for range 60 {
			line := someLine(pick)
			lines = append(lines, line)
			if reply := s.Do(line); reply != "" {
				want += reply + "\n"
			}
		}
		if got, e := stall.Run(strings.Join(lines, "\n")); got != want || e != api.OK {
			t.Errorf("Run of %q: %q, %d, want %q", lines, got, e, want)
		}
	}
}
