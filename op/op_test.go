package op

import (
	"strings"
	"testing"

	"weephole/api"
)

// row is what the document says of an operator.
type row struct {
	op       uint8
	name     string // empty: it has none
	arity    int
	commutes bool
}

// table returns what the document says of all operators.
func table() []row {
	return []row{
		{0, "", 0, false},
		{1, "", 0, false},
		{2, "not", 1, false},
		{3, "neg", 1, false},
		{4, "add", 2, true},
		{5, "sub", 2, false},
		{6, "mul", 2, true},
		{7, "div", 2, false},
		{8, "rem", 2, false},
		{9, "and", 2, true},
		{10, "or", 2, true},
		{11, "xor", 2, true},
		{12, "shl", 2, false},
		{13, "shr", 2, false},
		{14, "sar", 2, false},
		{15, "eq", 2, true},
		{16, "ne", 2, true},
		{17, "lt", 2, false},
		{18, "le", 2, false},
		{19, "slt", 2, false},
		{20, "sle", 2, false},
		{21, "ite", 3, false},
	}
}

// beyond calls f with all numbers that are no operators.
func beyond(f func(op uint8)) {
	for x := len(table()); x <= 255; x++ {
		f(uint8(x))
	}
}

// P8.1

func TestArity(t *testing.T) {
	for _, x := range table() {
		if n, e := Arity(x.op); n != x.arity || e != api.OK {
			t.Errorf("Arity(%d): %d, error %d; want %d", x.op, n, e, x.arity)
		}
	}
	beyond(func(op uint8) {
		if n, e := Arity(op); n != 0 || e != api.ErrRange {
			t.Errorf("Arity(%d): %d, error %d; want ErrRange", op, n, e)
		}
	})
}

// P8.2

func TestName(t *testing.T) {
	for _, x := range table() {
		want := api.OK
		if x.name == "" {
			want = api.ErrNone
		}
		if s, e := Name(x.op); s != x.name || e != want {
			t.Errorf("Name(%d): %q, error %d; want %q, error %d", x.op, s, e, x.name, want)
		}
	}
	beyond(func(op uint8) {
		if s, e := Name(op); s != "" || e != api.ErrRange {
			t.Errorf("Name(%d): %q, error %d; want ErrRange", op, s, e)
		}
	})
}

func TestOf(t *testing.T) {
	for _, x := range table()[2:] {
		if op, e := Of(x.name); op != x.op || e != api.OK {
			t.Errorf("Of(%q): %d, error %d; want %d", x.name, op, e, x.op)
		}
	}
}

// none fails the test unless a text is the name of no operator.
func none(t *testing.T, text string) {
	t.Helper()
	if op, e := Of(text); op != 0 || e != api.ErrNone {
		t.Errorf("Of(%q): %d, error %d; want ErrNone", text, op, e)
	}
}

func TestOfOtherTexts(t *testing.T) {
	for _, text := range []string{
		"", " ", "  ", "const", "var", "jump", "release", "call", "x", "0", "4", "\x00", "\xff", "é", "add\x00", "ädd",
		"not neg", "add sub", "or xor", "eq ne lt le", "sle ite", "sl", "te", "t n", "d s", "ot", "o", "r", "xo", "nega", "adds", "itee",
		strings.Repeat("add", 1000), strings.Repeat("add ", 1000), strings.Repeat(" ", 1000),
	} {
		none(t, text)
	}
}

func TestOfTextsLikeNames(t *testing.T) {
	all := ""
	for _, x := range table()[2:] {
		s := x.name
		all += s + " "
		for _, text := range []string{strings.ToUpper(s), strings.ToUpper(s[:1]) + s[1:], s + " ", " " + s, " " + s + " ", s + "\n", "\t" + s, s + s, s + "_", s + "1", "_" + s} {
			none(t, text)
		}
	}
	none(t, all)
	none(t, strings.TrimSpace(all))
}

// Of all texts of up to three letters, and blanks, none but the names are those of operators.
func TestOfAllShortTexts(t *testing.T) {
	known := map[string]uint8{}
	for _, x := range table()[2:] {
		known[x.name] = x.op
	}
	found := 0
	var grow func(text string)
	grow = func(text string) {
		want, is := known[text]
		op, e := Of(text)
		if is {
			found++
		}
		if is != (e == api.OK) || op != want || !is && e != api.ErrNone {
			t.Errorf("Of(%q): %d, error %d", text, op, e)
		}
		if len(text) == 3 {
			return
		}
		for _, c := range " abcdefghijklmnopqrstuvwxyz" {
			grow(text + string(c))
		}
	}
	grow("")
	if found != 20 {
		t.Error(found, "names are those of operators")
	}
}

// P8.3

func TestCommutes(t *testing.T) {
	for _, x := range table() {
		if Commutes(x.op) != x.commutes {
			t.Errorf("Commutes(%d): %v", x.op, !x.commutes)
		}
	}
	beyond(func(op uint8) {
		if Commutes(op) {
			t.Errorf("Commutes(%d): true", op)
		}
	})
}

// P8.4

func TestNamesAndOperators(t *testing.T) {
	seen := map[string]bool{}
	for x := range 256 {
		s, e := Name(uint8(x))
		if e != api.OK {
			continue
		}
		if op, e := Of(s); op != uint8(x) || e != api.OK {
			t.Errorf("Of the name %q of %d: %d, error %d", s, x, op, e)
		}
		if len(s) < 2 || len(s) > 3 || strings.Trim(s, "abcdefghijklmnopqrstuvwxyz") != "" {
			t.Errorf("the name of %d is %q", x, s)
		}
		seen[s] = true
	}
	if len(seen) != 20 {
		t.Error("there are", len(seen), "names")
	}
	for s := range seen {
		op, _ := Of(s)
		if name, e := Name(op); name != s || e != api.OK {
			t.Errorf("Name of Of(%q): %q, error %d", s, name, e)
		}
	}
}

// P8.5

func TestOnlyOperatorsWithTwoArgumentsCommute(t *testing.T) {
	count := 0
	for x := range 256 {
		n, e := Arity(uint8(x))
		if !Commutes(uint8(x)) {
			continue
		}
		count++
		if n != 2 || e != api.OK {
			t.Errorf("%d commutes, but has %d arguments, error %d", x, n, e)
		}
	}
	if count != 7 {
		t.Error(count, "operators commute")
	}
}
