package tests

import (
	"math"
	"testing"

	"loop.example/g01214/impl"
)

const samples = 6000

// badParts are what no number is.
var badParts = []float32{
	float32(math.NaN()), float32(math.Inf(1)), float32(math.Inf(-1)),
	math.Float32frombits(0x7f800001), math.Float32frombits(0xffffffff),
}

var minusZero = float32(math.Copysign(0, -1))

const greatest = math.MaxFloat32

// power returns 2^exponent, for an exponent in -149..127.
func power(exponent int) float32 { return float32(math.Ldexp(1, exponent)) }

// at returns the number with a place in -MaxPlace..MaxPlace without help of the program.
func at(place int64) float32 {
	if place < 0 {
		return -at(-place)
	}
	return math.Float32frombits(uint32(place))
}

// badComplex are no complex numbers, each because of one of its parts, or of both.
func badComplex() []complex64 {
	var list []complex64
	for _, x := range badParts {
		list = append(list, complex(x, 1), complex(1, x), complex(x, x))
	}
	return list
}

func wantNumber(t *testing.T, what string, x float32, code int64, want float32) {
	t.Helper()
	if x != want || code != impl.ErrNone {
		t.Errorf("%s = %v, %d, want %v", what, x, code, want)
	}
}

func wantComplex(t *testing.T, what string, z complex64, code int64, want complex64) {
	t.Helper()
	if z != want || code != impl.ErrNone {
		t.Errorf("%s = %v, %d, want %v", what, z, code, want)
	}
}

func wantNoNumber(t *testing.T, what string, x float32, code int64, want int64) {
	t.Helper()
	if x != 0 || code != want {
		t.Errorf("%s = %v, %d, want the code %d", what, x, code, want)
	}
}

func wantNoComplex(t *testing.T, what string, z complex64, code int64, want int64) {
	t.Helper()
	if z != 0 || code != want {
		t.Errorf("%s = %v, %d, want the code %d", what, z, code, want)
	}
}

// wantParts expects the parts at two places, or ErrLimit if one of them did not arise.
func wantParts(t *testing.T, what string, z complex64, code int64, re, im int64, ok bool) {
	t.Helper()
	if ok {
		wantComplex(t, what, z, code, complex(at(re), at(im)))
	} else {
		wantNoComplex(t, what, z, code, impl.ErrLimit)
	}
}
