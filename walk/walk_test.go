package walk

import (
	"fmt"
	"math"
	"strings"
	"testing"
)

// signs: those that are steps.
const signs = "FBLR"

// A plain is a walker reckoned by whole numbers.
type plain struct{ x, y, dx, dy int }

// step: the same step as a Walker's.
func (p plain) step(c byte) plain {
	switch c {
	case 'F':
		p.x, p.y = p.x+p.dx, p.y+p.dy
	case 'B':
		p.x, p.y = p.x-p.dx, p.y-p.dy
	case 'L':
		p.dx, p.dy = -p.dy, p.dx
	case 'R':
		p.dx, p.dy = p.dy, -p.dx
	}
	return p
}

func (p plain) text() string { return fmt.Sprint(p.x, " ", p.y, " ", p.dx, " ", p.dy) }

func (p plain) walker() Walker {
	return Walker{complex(float64(p.x), float64(p.y)), complex(float64(p.dx), float64(p.dy))}
}

// somewhere: walkers that stand and look in many ways.
func somewhere() []plain {
	var l []plain
	parts := []int{-7, -1, 0, 1, 3}
	for _, x := range parts {
		for _, y := range parts {
			for _, dx := range parts {
				for _, dy := range parts {
					l = append(l, plain{x, y, dx, dy})
				}
			}
		}
	}
	return append(l, plain{40, -40, 0, 1}, plain{-1000000, 999999, 12345, -54321}, plain{1 << 30, -1 << 30, 1 << 20, -1})
}

// others: all bytes that are no step.
func others() []byte {
	var l []byte
	for i := range 256 {
		if c := byte(i); strings.IndexByte(signs, c) < 0 {
			l = append(l, c)
		}
	}
	return l
}

// walks: is that where a walk ends?
func walks(t *testing.T, s string, want Walker, text string) {
	t.Helper()
	w, ok := Walk(s)
	if w != want || !ok {
		t.Errorf("Walk(%q) = %v, %v, want %v", s, w, ok, want)
	}
	if got := w.Text(); got != text {
		t.Errorf("Text of Walk(%q) = %q, want %q", s, got, text)
	}
}

func walkFails(t *testing.T, s string) {
	t.Helper()
	if w, ok := Walk(s); w != (Walker{}) || ok {
		t.Errorf("Walk(%q) = %v, %v, want nothing, false", s, w, ok)
	}
}

// shortWalks: all texts of steps up to that length.
func shortWalks(length int) []string {
	all, last := []string{""}, []string{""}
	for range length {
		var longer []string
		for _, s := range last {
			for i := range len(signs) {
				longer = append(longer, s+signs[i:i+1])
			}
		}
		all, last = append(all, longer...), longer
	}
	return all
}

// plainWalk: where a walk of these steps ends.
func plainWalk(s string) plain {
	p := plain{dx: 1}
	for i := range len(s) {
		p = p.step(s[i])
	}
	return p
}

func TestNew(t *testing.T) {
	w := New()
	if w.At != 0 || w.To != 1 {
		t.Errorf("New() = %v", w)
	}
	if got := w.Text(); got != "0 0 1 0" {
		t.Errorf("Text of New() = %q", got)
	}
}

func TestNewIsAlwaysTheSame(t *testing.T) {
	w := New()
	w.At, w.To = 5, 7i
	w.Step('F')
	if again := New(); again != (Walker{0, 1}) {
		t.Errorf("New() = %v behind a walk", again)
	}
}

func TestStep(t *testing.T) {
	from := Walker{At: 3 - 4i, To: 2 + 5i}
	for c, want := range map[byte]Walker{
		'F': {At: 5 + 1i, To: 2 + 5i},
		'B': {At: 1 - 9i, To: 2 + 5i},
		'L': {At: 3 - 4i, To: -5 + 2i},
		'R': {At: 3 - 4i, To: 5 - 2i},
	} {
		if w, ok := from.Step(c); w != want || !ok {
			t.Errorf("Step(%q) of %v = %v, %v, want %v", c, from, w, ok, want)
		}
	}
}

func TestStepOfNew(t *testing.T) {
	for c, want := range map[byte]Walker{'F': {1, 1}, 'B': {-1, 1}, 'L': {0, 1i}, 'R': {0, -1i}} {
		if w, ok := New().Step(c); w != want || !ok {
			t.Errorf("Step(%q) of New() = %v, %v, want %v", c, w, ok, want)
		}
	}
}

func TestStepFromAnywhere(t *testing.T) {
	for _, p := range somewhere() {
		for i := range len(signs) {
			c := signs[i]
			want := p.step(c)
			w, ok := p.walker().Step(c)
			if w != want.walker() || !ok {
				t.Errorf("Step(%q) of %v = %v, %v, want %v", c, p, w, ok, want)
			}
			if got := w.Text(); got != want.text() {
				t.Errorf("Text of Step(%q) of %v = %q, want %q", c, p, got, want.text())
			}
		}
	}
}

func TestStepOfFractions(t *testing.T) {
	from := Walker{At: 0.5 - 0.25i, To: 1.5 + 2.25i}
	for c, want := range map[byte]Walker{
		'F': {At: 2 + 2i, To: 1.5 + 2.25i},
		'B': {At: -1 - 2.5i, To: 1.5 + 2.25i},
		'L': {At: 0.5 - 0.25i, To: -2.25 + 1.5i},
		'R': {At: 0.5 - 0.25i, To: 2.25 - 1.5i},
	} {
		if w, ok := from.Step(c); w != want || !ok {
			t.Errorf("Step(%q) of %v = %v, %v, want %v", c, from, w, ok, want)
		}
	}
}

func TestStepOfOtherSigns(t *testing.T) {
	for _, p := range []plain{{0, 0, 1, 0}, {0, 0, 0, 0}, {-7, 3, 0, -1}, {40, 40, 2, -3}} {
		for _, c := range others() {
			from := p.walker()
			if w, ok := from.Step(c); w != (Walker{}) || ok {
				t.Errorf("Step(%q) of %v = %v, %v, want nothing, false", c, p, w, ok)
			}
			if from != p.walker() {
				t.Errorf("Step(%q) made %v of %v", c, from, p)
			}
		}
	}
}

func TestStepLeavesTheWalker(t *testing.T) {
	for _, p := range somewhere() {
		from := p.walker()
		for i := range len(signs) {
			w, _ := from.Step(signs[i])
			w.At, w.To = 100, 100
			if from != p.walker() {
				t.Errorf("Step(%q) made %v of %v", signs[i], from, p)
			}
		}
	}
}

func TestStepsThatUndoEachOther(t *testing.T) {
	for _, p := range somewhere() {
		for _, s := range []string{"FB", "BF", "LR", "RL", "LLLL", "RRRR", "LLRR", "LLFLLF", "RRBRRB"} {
			w := p.walker()
			for i := range len(s) {
				w, _ = w.Step(s[i])
			}
			if w != p.walker() || w.Text() != p.text() {
				t.Errorf("the steps %q of %v end at %v (%s)", s, p, w, w.Text())
			}
		}
	}
}

// Whatever the numbers are that a walker is made of, its calls end.
func TestStepOfNumbersThatAreNoPlace(t *testing.T) {
	parts := []float64{math.NaN(), math.Inf(1), math.Inf(-1), math.MaxFloat64, -math.MaxFloat64, 0}
	for _, a := range parts {
		for _, b := range parts {
			from := Walker{complex(a, b), complex(b, a)}
			for i := range 256 {
				w, ok := from.Step(byte(i))
				if want := strings.IndexByte(signs, byte(i)) >= 0; ok != want || !ok && w != (Walker{}) {
					t.Errorf("Step(%q) of %v = %v, %v", byte(i), from, w, ok)
				}
				if text := w.Text(); len(strings.Split(text, " ")) != 4 {
					t.Errorf("Text of %v = %q", w, text)
				}
			}
		}
	}
}

func TestWalk(t *testing.T) {
	for _, c := range []struct {
		steps string
		want  Walker
		text  string
	}{
		{"", Walker{0, 1}, "0 0 1 0"},
		{"F", Walker{1, 1}, "1 0 1 0"},
		{"FF", Walker{2, 1}, "2 0 1 0"},
		{"B", Walker{-1, 1}, "-1 0 1 0"},
		{"BBB", Walker{-3, 1}, "-3 0 1 0"},
		{"FFB", Walker{1, 1}, "1 0 1 0"},
		{"FB", Walker{0, 1}, "0 0 1 0"},
		{"L", Walker{0, 1i}, "0 0 0 1"},
		{"R", Walker{0, -1i}, "0 0 0 -1"},
		{"LF", Walker{1i, 1i}, "0 1 0 1"},
		{"RF", Walker{-1i, -1i}, "0 -1 0 -1"},
		{"LB", Walker{-1i, 1i}, "0 -1 0 1"},
		{"RB", Walker{1i, -1i}, "0 1 0 -1"},
		{"LLF", Walker{-1, -1}, "-1 0 -1 0"},
		{"RRF", Walker{-1, -1}, "-1 0 -1 0"},
		{"LLB", Walker{1, -1}, "1 0 -1 0"},
		{"FLF", Walker{1 + 1i, 1i}, "1 1 0 1"},
		{"FRF", Walker{1 - 1i, -1i}, "1 -1 0 -1"},
		{"FLFL", Walker{1 + 1i, -1}, "1 1 -1 0"},
		{"FLFLF", Walker{1i, -1}, "0 1 -1 0"},
		{"FLFLFLF", Walker{0, -1i}, "0 0 0 -1"},
		{"FLFLFLFL", Walker{0, 1}, "0 0 1 0"},
		{"FRFRFRFR", Walker{0, 1}, "0 0 1 0"},
		{"BRBBLFFFRB", Walker{2 + 3i, -1i}, "2 3 0 -1"},
		{"LLFFFFFFFFFFFFRFFFFFFFFFFF", Walker{-12 + 11i, 1i}, "-12 11 0 1"},
	} {
		walks(t, c.steps, c.want, c.text)
	}
}

func TestAllShortWalks(t *testing.T) {
	for _, s := range shortWalks(7) {
		p := plainWalk(s)
		walks(t, s, p.walker(), p.text())
	}
}

func TestWalkIsAllStepsOfNew(t *testing.T) {
	for seed := range 2000 {
		s, w, n := "", New(), seed
		for range seed % 41 {
			n = (n*1103 + 12345) % 65537
			c := signs[n/7%len(signs)]
			s += string(c)
			w, _ = w.Step(c)
		}
		walks(t, s, w, plainWalk(s).text())
	}
}

func TestWalkOfMaxSteps(t *testing.T) {
	rep := strings.Repeat
	walks(t, rep("F", 39), Walker{39, 1}, "39 0 1 0")
	walks(t, rep("F", 40), Walker{40, 1}, "40 0 1 0")
	walks(t, rep("B", 40), Walker{-40, 1}, "-40 0 1 0")
	walks(t, rep("L", 40), Walker{0, 1}, "0 0 1 0")
	walks(t, rep("R", 39), Walker{0, 1i}, "0 0 0 1")
	walks(t, "L"+rep("F", 39), Walker{39i, 1i}, "0 39 0 1")
	walks(t, "R"+rep("F", 39), Walker{-39i, -1i}, "0 -39 0 -1")
	walks(t, rep("FLFR", 10), Walker{10 + 10i, 1}, "10 10 1 0")
	walks(t, rep("FB", 20), Walker{0, 1}, "0 0 1 0")
}

func TestWalkAboveMaxSteps(t *testing.T) {
	rep := strings.Repeat
	for _, s := range []string{
		rep("F", 41), rep("B", 41), rep("L", 41), rep("R", 41), rep("LR", 21), rep("F", 42),
		rep("F", 40) + "x", "x" + rep("F", 40), rep("x", 41), rep("F", 80), rep("F", 10000),
		rep("F", 256+40), rep("\xc3\xa9", 21),
	} {
		walkFails(t, s)
	}
}

func TestWalkOfOtherSigns(t *testing.T) {
	for _, c := range others() {
		x := string([]byte{c})
		for _, s := range []string{x, x + x, x + "F", "F" + x, "F" + x + "F", "FLF" + x, x + "FLF", "FL" + x + "BR"} {
			walkFails(t, s)
		}
		for at := range 40 {
			walkFails(t, strings.Repeat("F", at)+x+strings.Repeat("F", 39-at))
		}
	}
}

func TestWalkOfTextsThatLookAlike(t *testing.T) {
	for _, s := range []string{
		"f", "b", "l", "r", "flf", "FLf", "Flf", " ", " F", "F ", "F F", "F\n", "F,L", "F\x00", "\x00F",
		"\xc6", "\x80", "\xff", "é", "Fé", "éF", "FéF", "Ｆ", "\u0146", "\u0246", "G", "E", "A", "C", "K", "M", "Q", "S",
		"2F", "F2", "-F", "FORWARD", "N", "U", "D",
	} {
		walkFails(t, s)
	}
}

func TestText(t *testing.T) {
	for text, w := range map[string]Walker{
		"0 0 0 0":         {},
		"1 2 3 4":         {1 + 2i, 3 + 4i},
		"-1 -2 -3 -4":     {-1 - 2i, -3 - 4i},
		"-12 0 0 -1":      {-12, -1i},
		"0 -12 -1 0":      {-12i, -1},
		"10 -10 100 -100": {10 - 10i, 100 - 100i},
		"40 -40 0 1":      {40 - 40i, 1i},
		"1000000 -1000000 1073741824 -1073741824": {1e6 - 1e6i, 1<<30 - 1<<30*1i},
	} {
		if got := w.Text(); got != text {
			t.Errorf("Text of %v = %q, want %q", w, got, text)
		}
	}
}

func TestTextFromAnywhere(t *testing.T) {
	for _, p := range somewhere() {
		if got := p.walker().Text(); got != p.text() {
			t.Errorf("Text of %v = %q, want %q", p, got, p.text())
		}
	}
}

func TestTextOfNoughtsWithSigns(t *testing.T) {
	below := math.Copysign(0, -1)
	for _, a := range []float64{0, below} {
		for _, b := range []float64{0, below} {
			w := Walker{complex(a, b), complex(b, a)}
			if got := w.Text(); got != "0 0 0 0" {
				t.Errorf("Text of %v = %q", w, got)
			}
		}
	}
}

func TestTextBehindTurns(t *testing.T) {
	// Where a walker looks behind so many turns to the left.
	looks := []string{"1 0", "0 1", "-1 0", "0 -1"}
	for n := range 41 {
		for turns, want := range map[string]string{"L": looks[n%4], "R": looks[(4-n%4)%4]} {
			w, ok := Walk(strings.Repeat(turns, n))
			if got := w.Text(); !ok || got != "0 0 "+want {
				t.Errorf("Text behind %d turns %s = %q, %v, want 0 0 %s", n, turns, got, ok, want)
			}
		}
	}
}

func TestTextLeavesTheWalker(t *testing.T) {
	w := Walker{3 - 1i, -1i}
	if a, b := w.Text(), w.Text(); a != "3 -1 0 -1" || a != b || w != (Walker{3 - 1i, -1i}) {
		t.Errorf("Text of %v = %q, then %q", w, a, b)
	}
}
