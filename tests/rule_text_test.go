package tests

import (
	"math/rand"
	"strings"
	"testing"

	"loop.example/dunsched/impl"
)

// longestLine is the longest line that CalWrite writes.
const longestLine = "every 1000 at 999 from 100000 to 100000 but 10000 10001 10002 10003 10004 10005 10006 100000\n"

func TestWrite(t *testing.T) {
	for _, c := range []struct {
		rules []rule
		text  string
	}{
		{example(), exampleText},
		{[]rule{{Every: 1}}, "every 1 at 0 from 0 to 0\n"},
		{[]rule{{Every: 2, At: 1, From: 3, To: 5, But: []int{}}}, "every 2 at 1 from 3 to 5\n"},
		{[]rule{{Every: 1, But: []int{0}}}, "every 1 at 0 from 0 to 0 but 0\n"},
		{[]rule{{Every: 9, At: 8, From: 1, To: 100, But: []int{0, 1, 2, 3, 4, 5, 6, 100000}}}, "every 9 at 8 from 1 to 100 but 0 1 2 3 4 5 6 100000\n"},
		{[]rule{{Every: 1000, At: 999, From: 100000, To: 100000}, {Every: 7, From: 7, To: 70}, {Every: 1}, {Every: 10, To: 10}}, "every 1000 at 999 from 100000 to 100000\nevery 7 at 0 from 7 to 70\nevery 1 at 0 from 0 to 0\nevery 10 at 0 from 0 to 10\n"},
	} {
		if text := impl.CalWrite(c.rules); text != c.text {
			t.Errorf("%q instead of %q", text, c.text)
		}
		if rules, ok := impl.CalRead(c.text); !ok || !sameRules(rules, c.rules) {
			t.Errorf("%q is read as %v, %v", c.text, rules, ok)
		}
	}
}

// P5, from rules to a text and back.
func TestWrittenIsRead(t *testing.T) {
	source := rand.New(rand.NewSource(6))
	for i := range 3000 {
		rules := someRules(source, 1+i*16)
		text := impl.CalWrite(rules)
		if text == "" {
			t.Fatalf("not written: %v", rules)
		}
		back, ok := impl.CalRead(text)
		if !ok || !sameRules(back, rules) {
			t.Fatalf("%v is read as %v, %v", rules, back, ok)
		}
	}
}

func TestReadRefuses(t *testing.T) {
	for _, text := range []string{
		"", "\n", " ", "\x00", "every", "every \n", "every 5\n", "every 5 at 2 from 0 to\n", "every 5 at 2 from 0\n",
		"every 5 at 2 from 0 to 40", "every 5 at 2 from 0 to 40\n\n", "\nevery 5 at 2 from 0 to 40\n", "every 5 at 2 from 0 to 40\n ",
		"every 5 at 2 from 0 to 40\r\n", "every 5 at 2 from 0 to 40 \n", " every 5 at 2 from 0 to 40\n", "every  5 at 2 from 0 to 40\n", "every 5 at 2 from 0  to 40\n",
		"every\t5 at 2 from 0 to 40\n", "every\u00a05 at 2 from 0 to 40\n", "Every 5 at 2 from 0 to 40\n", "every 5 at 2 to 40 from 0\n", "at 2 every 5 from 0 to 40\n",
		"every 5 at 2 from 0 to 40 but\n", "every 5 at 2 from 0 to 40 but \n", "every 5 at 2 from 0 to 40but 2\n", "every 5 at 2 from 0 to 40 but 2 \n", "every 5 at 2 from 0 to 40 but  2\n",
		"every 5 at 2 from 0 to 40 2\n", "every 5 at 2 from 0 to 40 but 2 but 7\n", "every 5 at 2 from 0 to 40 but 2,7\n", "every 5 at 2 from 0 to 40 but two\n",
		"every 05 at 2 from 0 to 40\n", "every 5 at 02 from 0 to 40\n", "every 5 at 2 from 00 to 40\n", "every 5 at 2 from 0 to 040\n", "every 5 at 2 from 0 to 40 but 02\n", "every 5 at -0 from 0 to 40\n", "every +5 at 2 from 0 to 40\n",
		"every 5 at 2 from 0 to 4_0\n", "every 0x5 at 2 from 0 to 40\n", "every 5.0 at 2 from 0 to 40\n", "every 5 at 2 from 0 to 4e1\n",
		"every 0 at 0 from 0 to 40\n", "every 1001 at 2 from 0 to 40\n", "every 5 at 5 from 0 to 40\n", "every 5 at -1 from 0 to 40\n", "every 5 at 2 from -1 to 40\n", "every 5 at 2 from 41 to 40\n",
		"every 1 at 0 from 0 to 100001\n", "every 1 at 0 from 100001 to 100001\n", "every 5 at 2 from 0 to 40 but 100001\n", "every 5 at 2 from 0 to 40 but -3\n",
		"every 5 at 2 from 0 to 40 but 7 2\n", "every 5 at 2 from 0 to 40 but 7 7\n", "every 5 at 2 from 0 to 40 but 1 2 3 4 5 6 7 8 9\n",
		strings.Repeat("every 5 at 2 from 0 to 40\n", impl.CalMaxRules+1),
		exampleText + "x\n", "x\n" + exampleText, exampleText + exampleText + "\n", exampleText[:len(exampleText)-1] + "\x00\n",
		// Numbers that wrap round into 5 at 32 and at 64 bits, and one of very many digits.
		"every 4294967301 at 2 from 0 to 40\n", "every 18446744073709551621 at 2 from 0 to 40\n", "every 5 at 2 from 0 to 40 but 18446744073709551621\n", "every 1" + strings.Repeat("0", 500) + " at 2 from 0 to 40\n",
		// Digits of other scripts, bytes that are no rune, the rune that stands for them, a rune whose last byte is a newline's number.
		"every \u0665 at 2 from 0 to 40\n", "every \uff15 at 2 from 0 to 40\n", "every \xff at 2 from 0 to 40\n", "every 5 at 2 from 0 to 40\xff\n", "every 5 at 2 from 0 to 40\ufffd\n", "\xffevery 5 at 2 from 0 to 40\n", "every 5\xc2 at 2 from 0 to 40\n", "every 5 at 2 from 0 to 40\xc2\n", "every 5 at 2 from 0 to 40\u010a", "every 5 at 2 from 0 to 40\u2028",
	} {
		if rules, ok := impl.CalRead(text); ok || len(rules) != 0 {
			t.Errorf("%q is read as %v, %v", text, rules, ok)
		}
	}
}

func TestReadOfLimits(t *testing.T) {
	whole := strings.Repeat(longestLine, impl.CalMaxRules)
	rules, ok := impl.CalRead(whole)
	if !ok || len(rules) != impl.CalMaxRules || impl.CalWrite(rules) != whole {
		t.Errorf("the longest text is read as %v, %v", rules, ok)
	}
	if _, ok := impl.CalRead(whole + longestLine); ok {
		t.Error("one rule too many is read")
	}
}

// The longest text that is written is shorter than CalMaxText, so none of that size can be read.
func TestReadOfLongTexts(t *testing.T) {
	line := "every 5 at 2 from 0 to 40\n"
	for _, size := range []int{impl.CalMaxText - 1, impl.CalMaxText, impl.CalMaxText + 1, 10 * impl.CalMaxText, 1 << 20} {
		for name, text := range map[string]string{
			"lines":         strings.Repeat(line, size)[:size],
			"ended lines":   strings.Repeat(line, size)[:size-len(line)] + line,
			"newlines":      line + strings.Repeat("\n", size-len(line)),
			"spaces":        line[:len(line)-1] + strings.Repeat(" ", size-len(line)) + "\n",
			"zeros":         "every " + strings.Repeat("0", size-len(line)) + line[len("every "):],
			"zeros behind":  line[:len(line)-1] + strings.Repeat("0", size-len(line)) + "\n",
			"NULs":          strings.Repeat("\x00", size),
			"no runes":      strings.Repeat("\xff", size),
			"left-out long": line[:len(line)-1] + " but" + strings.Repeat(" 7", (size-len(line)-4)/2) + "\n",
		} {
			if rules, ok := impl.CalRead(text); ok || len(rules) != 0 {
				t.Errorf("%s of %d bytes are read", name, size)
			}
		}
	}
}

func checkRead(t *testing.T, text string) {
	t.Helper()
	want, wantOk := plainRead(text)
	rules, ok := impl.CalRead(text)
	if ok != wantOk || !sameRules(rules, want) {
		t.Fatalf("%q is read as %v, %v, not %v, %v", text, rules, ok, want, wantOk)
	}
	if ok && impl.CalWrite(rules) != text {
		t.Fatalf("%q is written as %q", text, impl.CalWrite(rules))
	}
}

// P5, from a text to rules and back: each text that is one byte away from a written one.
func TestReadIsWrittenSo(t *testing.T) {
	for _, text := range []string{exampleText, "every 10 at 9 from 99999 to 100000 but 0 9 10 99\n", longestLine} {
		for place := 0; place <= len(text); place++ {
			for b := range 256 {
				checkRead(t, text[:place]+string([]byte{byte(b)})+text[place:])
				if place < len(text) {
					checkRead(t, text[:place]+string([]byte{byte(b)})+text[place+1:])
				}
			}
			checkRead(t, text[:place])
			checkRead(t, text[place:])
			if place < len(text) {
				checkRead(t, text[:place]+text[place+1:])
			}
		}
	}
}

// Texts of the right words, put together by chance.
func TestReadOfWords(t *testing.T) {
	source := rand.New(rand.NewSource(7))
	words := []string{"every", "at", "from", "to", "but", " ", "\n", "0", "1", "2", "5", "1000", "1001", "100000", "100001", "00", "-1", "é", "\xff"}
	shape := strings.Fields("every 5 at 2 from 0 to 100000 but 1 2 5")
	read := 0
	for range 20000 {
		parts := append([]string(nil), shape[:len(shape)-source.Intn(5)]...)
		for range source.Intn(3) {
			parts[source.Intn(len(parts))] = words[source.Intn(len(words))]
		}
		text := strings.Join(parts, " ") + "\n"
		text = strings.Repeat(text, 1+source.Intn(2)*source.Intn(5))
		checkRead(t, text)
		if _, ok := impl.CalRead(text); ok {
			read++
		}
	}
	if read < 1000 || read > 19000 {
		t.Errorf("only one kind of text: %d are read", read)
	}
}

func FuzzRead(f *testing.F) {
	for _, text := range []string{"", exampleText, longestLine, "every 05 at 2 from 0 to 40\n", "every 5 at 2 from 0 to 40 but\n", "every \xff"} {
		f.Add(text)
	}
	f.Fuzz(checkRead)
}
