/- Walks: rounded products and sums of complex numbers, those of the program. -/
import Derived.Test.YtibmaflcfmphgaaEx
namespace Go.Proofs.Ytibmaflcfmphgaa
open Go.RowKit

theorem vl_num {x : Nat} {v : Int} (h : Vl x v) : x < 4294967296 ∧ fin x = true := by
  obtain ⟨s, m, p, rfl, hf, _⟩ := h
  refine ⟨(mag_S s m p).1, ?_⟩
  cases hc : fin (S s m p)
  · obtain ⟨k, hk⟩ := Flt.read_fit Ieee.single (by decide) s m p hf
    obtain ⟨t, h | ⟨u, h⟩⟩ := big_read _ (mag_S s m p).1 hc
    · have : Ieee.single.read (Ieee.single.nearest s m p) = .infinity t := h
      rw [hk] at this; cases this
    · have : Ieee.single.read (Ieee.single.nearest s m p) = .nan t u := h
      rw [hk] at this; cases this
  · rfl

/-- Two products that stay below a power of two, and their sum. -/
def Ab (k : Int) (a b c d a' b' c' d' : Nat) : Prop := (∃ j, Pb j a b c d) ∧ (∃ j, Pb j a' b' c' d') ∧ Sb k (pre a b c d) (pim a b c d) (pre a' b' c' d') (pim a' b' c' d')
