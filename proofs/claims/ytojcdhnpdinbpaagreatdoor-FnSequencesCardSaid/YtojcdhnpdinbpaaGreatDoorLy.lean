/- Walks: the five draws of lists of the law, and the test of its size. -/
import Derived.Test.YtojcdhnpdinbpaaGreatDoorLw
import Derived.Test.YtojcdhnpdinbpaaGreatDoorDy
namespace Go.Proofs.YtojcdhnpdinbpaaGreatDoor
open Go.RowKit

theorem Code.below {w w' : World} {c : Value} {len : Nat} (h : Code w c len) (hb : Below w.heap.size w w') : Code w' c len := by
  obtain ⟨a, cap, rfl, h⟩ := h
  refine ⟨a, cap, rfl, fun h0 => ?_⟩
  obtain ⟨b, off, rfl, hl, hz⟩ := h h0
  exact ⟨b, off, rfl, Nat.lt_of_lt_of_le hl hb.size, fun j j0 j1 => by
    obtain ⟨z, h1, h2⟩ := hz j j0 j1
    exact ⟨z, (hb.cell (p := ⟨b, _, none⟩) hl).trans h1, h2⟩⟩

theorem big_any (w : World) (c : Value) (len : Nat) (hcode : Code w c len) :
    Calls Tryz.prog 4 #[c] w fun e w' => e = .returned (.bool (decide ((4096 : Int) < (len : Int)))) ∧ w = w' := by
  obtain ⟨a, cap, rfl, hcode⟩ := hcode
  clear hcode
  go_enter Tryz.func4, Tryz.ntmps4
  go_wp2
  go_ret
  exact ⟨rfl, rfl⟩

/-- A drawn list. -/
def ListPost (w : World) (e : Ending) (w' : World) : Prop := ∃ (g m kc : Nat) (P : Nat → Pu), e = .returned (.slice (some ⟨g, 0, none⟩) m kc) ∧ m ≤ 61 ∧ m ≤ kc ∧ Rd w' (.slice (some ⟨g, 0, none⟩) m kc) m P ∧ Below w.heap.size w w'

set_option maxRecDepth 100000 in
theorem drawSequenceText_any (w : World) (c : Value) (len : Nat) (hcode : Code w c len) (hlen : (len : Int) ≤ 4096) : Calls Tryz.prog 5 #[c] w (ListPost w) := by
  have HF := Lib.hid (from_any w c len w.heap.size w hcode hlen rfl (Below.refl _ _))
  obtain ⟨B, hB⟩ : ∃ B, B = w.heap.size := ⟨_, rfl⟩
  have HD := Lib.hid (fun W hs => l05Spoil_any w c len B W hcode hlen hs)
  rw [← hB] at HF
  clear hcode hlen hB
  go_enter Tryz.func5, Tryz.ntmps5
  go_wp2_with fail
  refine HF.out.mono ?_
  rintro e w1 ⟨rfl, hs1⟩
  have HS1 := Lib.hid hs1
  clear hs1
  go_wp2_with fail
  refine (HD.out _ HS1.out).mono ?_
  rintro e w2 ⟨v, L, m, rfl, hL, hm, hown, hnn, hs2⟩
  obtain ⟨g, kc, rfl, hkc⟩ := owns_some hown hnn
  have HR := Lib.hid (own_rd (owns_own hown hL))
  have HB := Lib.hid hs2.old
  clear hown hs2 hnn
  go_wp2_with fail
  go_ret
  exact ⟨g, m, kc, _, rfl, hm, hkc, HR.out, HB.out⟩

set_option maxRecDepth 100000 in
theorem drawShortenSequence_any (w : World) (c : Value) (len : Nat) (hcode : Code w c len) (hlen : (len : Int) ≤ 4096) : Calls Tryz.prog 16 #[c] w (ListPost w) := by
  have HF := Lib.hid (from_any w c len w.heap.size w hcode hlen rfl (Below.refl _ _))
  obtain ⟨B, hB⟩ : ∃ B, B = w.heap.size := ⟨_, rfl⟩
  have HD := Lib.hid (fun W hs => l05Spoil_any w c len B W hcode hlen hs)
  rw [← hB] at HF
  clear hcode hlen hB
  go_enter Tryz.func16, Tryz.ntmps16
  go_wp2_with fail
  refine HF.out.mono ?_
  rintro e w1 ⟨rfl, hs1⟩
  have HS1 := Lib.hid hs1
  clear hs1
  go_wp2_with fail
  refine (HD.out _ HS1.out).mono ?_
  rintro e w2 ⟨v, L, m, rfl, hL, hm, hown, hnn, hs2⟩
  obtain ⟨g, kc, rfl, hkc⟩ := owns_some hown hnn
  have HR := Lib.hid (own_rd (owns_own hown hL))
  have HB := Lib.hid hs2.old
  clear hown hs2 hnn
  go_wp2_with fail
  go_ret
  exact ⟨g, m, kc, _, rfl, hm, hkc, HR.out, HB.out⟩

set_option maxRecDepth 100000 in
theorem drawEchoOf_any (w : World) (c : Value) (len : Nat) (hcode : Code w c len) (hlen : (len : Int) ≤ 4096) : Calls Tryz.prog 18 #[c] w (ListPost w) := by
  have HF := Lib.hid (from_any w c len w.heap.size w hcode hlen rfl (Below.refl _ _))
  obtain ⟨B, hB⟩ : ∃ B, B = w.heap.size := ⟨_, rfl⟩
  have HD := Lib.hid (fun W hs => l05Spoil_any w c len B W hcode hlen hs)
  rw [← hB] at HF
  clear hcode hlen hB
  go_enter Tryz.func18, Tryz.ntmps18
  go_wp2_with fail
  refine HF.out.mono ?_
  rintro e w1 ⟨rfl, hs1⟩
  have HS1 := Lib.hid hs1
  clear hs1
  go_wp2_with fail
  refine (HD.out _ HS1.out).mono ?_
  rintro e w2 ⟨v, L, m, rfl, hL, hm, hown, hnn, hs2⟩
  obtain ⟨g, kc, rfl, hkc⟩ := owns_some hown hnn
  have HR := Lib.hid (own_rd (owns_own hown hL))
  have HB := Lib.hid hs2.old
  clear hown hs2 hnn
  go_wp2_with fail
  go_ret
  exact ⟨g, m, kc, _, rfl, hm, hkc, HR.out, HB.out⟩

set_option maxRecDepth 100000 in
theorem drawInverseSequence_any (w : World) (c : Value) (len : Nat) (hcode : Code w c len) (hlen : (len : Int) ≤ 4096) : Calls Tryz.prog 21 #[c] w (ListPost w) := by
  have HF := Lib.hid (from_any w c len w.heap.size w hcode hlen rfl (Below.refl _ _))
  obtain ⟨B, hB⟩ : ∃ B, B = w.heap.size := ⟨_, rfl⟩
  have HD := Lib.hid (fun W hs => l05Spoil_any w c len B W hcode hlen hs)
  rw [← hB] at HF
  clear hcode hlen hB
  go_enter Tryz.func21, Tryz.ntmps21
  go_wp2_with fail
  refine HF.out.mono ?_
  rintro e w1 ⟨rfl, hs1⟩
  have HS1 := Lib.hid hs1
  clear hs1
  go_wp2_with fail
  refine (HD.out _ HS1.out).mono ?_
  rintro e w2 ⟨v, L, m, rfl, hL, hm, hown, hnn, hs2⟩
  obtain ⟨g, kc, rfl, hkc⟩ := owns_some hown hnn
  have HR := Lib.hid (own_rd (owns_own hown hL))
  have HB := Lib.hid hs2.old
  clear hown hs2 hnn
  go_wp2_with fail
  go_ret
  exact ⟨g, m, kc, _, rfl, hm, hkc, HR.out, HB.out⟩

set_option maxRecDepth 100000 in
theorem drawAnglesOf_any (w : World) (c : Value) (len : Nat) (hcode : Code w c len) (hlen : (len : Int) ≤ 4096) : Calls Tryz.prog 23 #[c] w (ListPost w) := by
  have HF := Lib.hid (from_any w c len w.heap.size w hcode hlen rfl (Below.refl _ _))
  obtain ⟨B, hB⟩ : ∃ B, B = w.heap.size := ⟨_, rfl⟩
  have HD := Lib.hid (fun W hs => l05Spoil_any w c len B W hcode hlen hs)
  rw [← hB] at HF
  clear hcode hlen hB
  go_enter Tryz.func23, Tryz.ntmps23
  go_wp2_with fail
  refine HF.out.mono ?_
  rintro e w1 ⟨rfl, hs1⟩
  have HS1 := Lib.hid hs1
  clear hs1
  go_wp2_with fail
  refine (HD.out _ HS1.out).mono ?_
  rintro e w2 ⟨v, L, m, rfl, hL, hm, hown, hnn, hs2⟩
  obtain ⟨g, kc, rfl, hkc⟩ := owns_some hown hnn
  have HR := Lib.hid (own_rd (owns_own hown hL))
  have HB := Lib.hid hs2.old
  clear hown hs2 hnn
  go_wp2_with fail
  go_ret
  exact ⟨g, m, kc, _, rfl, hm, hkc, HR.out, HB.out⟩
end Go.Proofs.YtojcdhnpdinbpaaGreatDoor
