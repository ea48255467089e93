package tests

import (
	"strings"
	"testing"

	"loop.example/g01214/impl"
)

type textCase struct {
	z    complex64
	text string
}

func textCases() []textCase {
	return []textCase{
		{0, "0,0"},
		{complex(minusZero, minusZero), "0,0"},
		{complex(1, -2), "3f800000,-40000000"},
		{complex(power(-149), -power(-149)), "1,-1"},
		{complex(-10*power(-149), 15*power(-149)), "-a,f"},
		{complex(16*power(-149), 0), "10,0"},
		{complex(power(-126), power(-126)-power(-149)), "800000,7fffff"},
		{complex(-greatest, greatest), "-7f7fffff,7f7fffff"},
	}
}

func TestTexts(t *testing.T) {
	for _, c := range textCases() {
		if text, code := impl.ComplexText(c.z); text != c.text || code != impl.ErrNone {
			t.Errorf("ComplexText(%v) = %q, %d, want %q", c.z, text, code, c.text)
		}
		z, code := impl.ParseComplex(c.text)
		wantComplex(t, "ParseComplex", z, code, c.z)
	}
	for _, bad := range badComplex() {
		if text, code := impl.ComplexText(bad); text != "" || code != impl.ErrInvalid {
			t.Errorf("ComplexText(%v) = %q, %d", bad, text, code)
		}
	}
}

// Guarantee of chapter 1: numbers come back from their texts.
func TestNumbersComeBackFromTexts(t *testing.T) {
	s := &sampler{state: 10}
	for range samples {
		z := s.complex()
		text, code := impl.ComplexText(z)
		if code != impl.ErrNone {
			t.Fatalf("ComplexText(%v): code %d", z, code)
		}
		back, code := impl.ParseComplex(text)
		wantComplex(t, "ParseComplex of ComplexText", back, code, z)
	}
}

func TestTextsOfNothing(t *testing.T) {
	numbers := []string{
		"", "-", "+", "00", "-0", "+0", "01", "-01", "+1", "--1", "-+1", "1-", "0x1", "1_0", "g", "A", "3F800000", "é", "\x00",
		" 1", "1 ", "1\n", "1.", "1p1", "inf", "nan",
		"7f800000", "-7f800000", "7fffffff", "80000000", "ffffffff", "100000000", "-100000001",
		"7fffffffffffffff", "8000000000000000", "-8000000000000000", "10000000000000001",
		strings.Repeat("0", 100) + "1", strings.Repeat("f", 1000),
	}
	var texts []string
	for _, n := range numbers {
		texts = append(texts, n+",1", "1,"+n, n+","+n, n)
	}
	texts = append(texts, "1", "1,1,", ",1,1", "1,1,1", "1,,1", ",", ",,", "1;1", "1 1", "1, 1", "1,1i", "(1,1)")
	for _, text := range texts {
		z, code := impl.ParseComplex(text)
		wantNoComplex(t, "ParseComplex of "+text, z, code, impl.ErrSyntax)
	}
}
