package crc

import (
	"math/rand"
	"testing"
)

// P2.1: the table that is written out is what four steps of the chapter's rule make of four bits.
func TestTableIsFourSteps(t *testing.T) {
	for bits, got := range fourSteps {
		want := uint32(bits)
		for range 4 {
			want = step(want)
		}
		if got != want {
			t.Errorf("%d: %08x, want %08x", bits, got, want)
		}
	}
}

// P2.3, P2.5: a step is taken back from wherever it leads: no two registers lead to one.
func TestStepsAreTakenBack(t *testing.T) {
	r := rand.New(rand.NewSource(23))
	registers := []uint32{0, 1, 2, 3, top, top | 1, polynomial, polynomial - 1, ^uint32(0), ^uint32(1)}
	for range 10000 {
		registers = append(registers, r.Uint32())
	}
	for _, register := range registers {
		if got := stepBack(step(register)); got != register {
			t.Errorf("back from the step of %08x: %08x", register, got)
		}
		if got := step(stepBack(register)); got != register {
			t.Errorf("the step of what leads to %08x: %08x", register, got)
		}
	}
}
