/- The law of RampFields, over what both functions answer. -/
import Derived.Test.YtaghfffbhgpalaaKbw
import Derived.Test.YtaghfffbhgpalaaKad
import Derived.Deep.RegionHeld3
namespace Go.Proofs.Ytaghfffbhgpalaa
open Go.RowKit

/-- A list of m vectors in new memory, and a code. -/
def GivesR (f : FuncId) (a b c a' b' c' : Nat) (n : Int) (m : Nat) (X : Nat → Nat) (code : Int) : Prop :=
  ∀ w : World, Calls Try.prog f #[.agg #[.float .f32 a, .float .f32 b, .float .f32 c], .agg #[.float .f32 a', .float .f32 b', .float .f32 c'], .int .i64 n] w fun e w' => ∃ u, e = .returned (.tuple #[u, .int .i64 code]) ∧ Below w.heap.size w w' ∧ OwnW w' u m (fun i => .float .f32 (X i)) w.heap.size w'.heap.size

/-- Two vectors in the two first blocks. -/
structure Two6 (W : World) (B a b c a' b' c' : Nat) : Prop where
  c0 : W.cell? ⟨B, 0, none⟩ = some (.float .f32 a)
  c1 : W.cell? ⟨B, 1, none⟩ = some (.float .f32 b)
  c2 : W.cell? ⟨B, 2, none⟩ = some (.float .f32 c)
  c3 : W.cell? ⟨B + 1, 0, none⟩ = some (.float .f32 a')
  c4 : W.cell? ⟨B + 1, 1, none⟩ = some (.float .f32 b')
  c5 : W.cell? ⟨B + 1, 2, none⟩ = some (.float .f32 c')
  lt : B + 1 < W.heap.size

theorem Two6.below {W w : World} {B a b c a' b' c' : Nat} (h : Two6 W B a b c a' b' c') (hb : Below W.heap.size W w) : Two6 w B a b c a' b' c' := by
  have l0 : B < W.heap.size := Nat.lt_of_succ_lt h.lt
  exact ⟨(hb.cell (p := ⟨B, 0, none⟩) l0).trans h.c0, (hb.cell (p := ⟨B, 1, none⟩) l0).trans h.c1, (hb.cell (p := ⟨B, 2, none⟩) l0).trans h.c2, (hb.cell (p := ⟨B + 1, 0, none⟩) h.lt).trans h.c3, (hb.cell (p := ⟨B + 1, 1, none⟩) h.lt).trans h.c4, (hb.cell (p := ⟨B + 1, 2, none⟩) h.lt).trans h.c5, Nat.lt_of_lt_of_le h.lt hb.size⟩

theorem on_drew {W w w' : World} {n : Nat} (h : Below W.heap.size W w) (hb : Below (w.drewN n).heap.size (w.drewN n) w') : Below W.heap.size W w' := below_step hb (Go.below_drewN h n) h.size

theorem on_drew1 {W w w' : World} (h : Below W.heap.size W w) (hb : Below w.drew.heap.size w.drew w') : Below W.heap.size W w' := below_step hb h.drew h.size

theorem on_plain {W w w' : World} (h : Below W.heap.size W w) (hb : Below w.heap.size w w') : Below W.heap.size W w' := below_step hb h h.size

theorem size_drew {w w' : World} {n : Nat} (hb : Below (w.drewN n).heap.size (w.drewN n) w') : w.heap.size ≤ w'.heap.size := hb.size

theorem size_drew1 {w w' : World} (hb : Below w.drew.heap.size w.drew w') : w.heap.size ≤ w'.heap.size := hb.size

theorem own_base1 {w w' : World} {u : Value} {m hi : Nat} {F : Nat → Value} (h : OwnW w' u m F w.drew.heap.size hi) : OwnW w' u m F w.heap.size hi := h

theorem own_base {w w' : World} {n : Nat} {u : Value} {m hi : Nat} {F : Nat → Value} (h : OwnW w' u m F (w.drewN n).heap.size hi) : OwnW w' u m F w.heap.size hi := h

theorem ra_drew {w w' : World} {n : Nat} {u : Value} {m lo hi : Nat} {F : Nat → Value} (h : OwnW w u m F lo hi) (hb : Below (w.drewN n).heap.size (w.drewN n) w') : OwnW w' u m F lo hi := ownw_below h (below_step hb (Go.below_drewN (Below.refl _ _) n) (Nat.le_refl _))

theorem ra_drew1 {w w' : World} {u : Value} {m lo hi : Nat} {F : Nat → Value} (h : OwnW w u m F lo hi) (hb : Below w.drew.heap.size w.drew w') : OwnW w' u m F lo hi := ownw_below h (below_step hb (Below.refl _ _).drew (Nat.le_refl _))

theorem sz_drew {W w w' : World} {n : Nat} (_h : Below W.heap.size W w) (hb : Below (w.drewN n).heap.size (w.drewN n) w') : w.heap.size ≤ w'.heap.size := hb.size

theorem sz_drew1 {W w w' : World} (_h : Below W.heap.size W w) (hb : Below w.drew.heap.size w.drew w') : w.heap.size ≤ w'.heap.size := hb.size

theorem sz_plain {W w w' : World} (_h : Below W.heap.size W w) (hb : Below w.heap.size w w') : w.heap.size ≤ w'.heap.size := hb.size

set_option maxRecDepth 100000 in
set_option maxHeartbeats 4000000 in
theorem law_ramp {a b c a' b' c' m : Nat} {n code : Int} {X : Nat → Nat} (hm : m ≤ 400) (hX : ∀ i, i < 3 * m → X i < 4294967296 ∧ fin (X i) = true) (SP0 : GivesR 5 a b c a' b' c' n m X code) (IM0 : GivesR 7 a b c a' b' c' n m X code) (w : World) :
    Calls Try.prog 3 #[.agg #[.float .f32 a, .float .f32 b, .float .f32 c], .agg #[.float .f32 a', .float .f32 b', .float .f32 c'], .int .i64 n] w fun e w' => e = .returned (.bool true) ∧ Below w.heap.size w w' := by
  have SP := Lib.hid SP0
  have IM := Lib.hid IM0
  have TV := Lib.hid (fun x y z w => toVector_any x y z w)
  clear SP0 IM0
  go_enter Try.func3, Try.ntmps3
  go_wp2_with fail
  generalize hW : (w.alloc (.cells #[.float .f32 a, .float .f32 b, .float .f32 c] 23)).alloc (.cells #[.float .f32 a', .float .f32 b', .float .f32 c'] 23) = W
  have I6 := Lib.hid (show Two6 W w.heap.size a b c a' b' c' by subst hW; exact ⟨by simp [go_sem], by simp [go_sem], by simp [go_sem], by simp [go_sem], by simp [go_sem], by simp [go_sem], by simp⟩)
  have HW := Lib.hid (show Below w.heap.size w W by subst hW; exact ((Below.refl _ _).alloc (Nat.le_refl _) _).alloc (by simp) _)
  have BB := Lib.hid (Below.refl W.heap.size W)
  clear hW
  obtain ⟨c0, c1, c2, c3, c4, c5, _⟩ := I6.out.below BB.out
  go_region_held3 (fun w' => w'.cell? ⟨w.heap.size, 0, none⟩ = some (.float .f32 a) ∧ w'.cell? ⟨w.heap.size, 1, none⟩ = some (.float .f32 b) ∧ w'.cell? ⟨w.heap.size, 2, none⟩ = some (.float .f32 c) ∧ w'.cell? ⟨w.heap.size + 1, 0, none⟩ = some (.float .f32 a') ∧ w'.cell? ⟨w.heap.size + 1, 1, none⟩ = some (.float .f32 b') ∧ w'.cell? ⟨w.heap.size + 1, 2, none⟩ = some (.float .f32 c')) (go_keep)
    ((first
      | (go_at_call 6; with_reducible refine (TV.out _ _ _ _).mono ?_; rintro e w1 ⟨rfl, hb⟩; (first | (have zz := sz_drew BB.out hb) | (have zz := sz_drew1 BB.out hb) | (have zz := sz_plain BB.out hb)); have BB := Lib.hid (by (first | (exact on_drew BB.out hb) | (exact on_drew1 BB.out hb) | (exact on_plain BB.out hb))); clear hb; obtain ⟨d0, d1, d2, d3, d4, d5, _⟩ := I6.out.below BB.out)
      | (go_at_call 5; refine (SP.out _).mono ?_; rintro e w2 ⟨u, rfl, hb, ho⟩; (first | (have zz := sz_drew BB.out hb) | (have zz := sz_drew1 BB.out hb) | (have zz := sz_plain BB.out hb)); have BC := BB.out.size; have BB := Lib.hid (by (first | (exact on_drew BB.out hb) | (exact on_drew1 BB.out hb) | (exact on_plain BB.out hb))); have O := Lib.hid ho; clear hb ho; obtain ⟨e0, e1, e2, e3, e4, e5, _⟩ := I6.out.below BB.out)))
  clear c0 c1 c2 c3 c4 c5 d0 d1 d2 d3 d4 d5 e0 e1 e2 e3 e4 e5
  go_wp2_with fail
  obtain ⟨c0, c1, c2, c3, c4, c5, _⟩ := I6.out.below BB.out
  go_region_held3 (fun w' => w'.cell? ⟨w.heap.size, 0, none⟩ = some (.float .f32 a) ∧ w'.cell? ⟨w.heap.size, 1, none⟩ = some (.float .f32 b) ∧ w'.cell? ⟨w.heap.size, 2, none⟩ = some (.float .f32 c) ∧ w'.cell? ⟨w.heap.size + 1, 0, none⟩ = some (.float .f32 a') ∧ w'.cell? ⟨w.heap.size + 1, 1, none⟩ = some (.float .f32 b') ∧ w'.cell? ⟨w.heap.size + 1, 2, none⟩ = some (.float .f32 c')) (go_keep)
    ((first
      | (go_at_call 6; with_reducible refine (TV.out _ _ _ _).mono ?_; rintro e w1 ⟨rfl, hb⟩; (first | (have zz := sz_drew BB.out hb) | (have zz := sz_drew1 BB.out hb) | (have zz := sz_plain BB.out hb)); have BB := Lib.hid (by (first | (exact on_drew BB.out hb) | (exact on_drew1 BB.out hb) | (exact on_plain BB.out hb))); have O := Lib.hid (by (first | (exact ra_drew O.out hb) | (exact ra_drew1 O.out hb) | (exact ownw_below O.out hb))); clear hb; obtain ⟨d0, d1, d2, d3, d4, d5, _⟩ := I6.out.below BB.out)
      | (go_at_call 7; refine (IM.out _).mono ?_; rintro e w2 ⟨g, rfl, hb, ho⟩; (first | (have zz := sz_drew BB.out hb) | (have zz := sz_drew1 BB.out hb) | (have zz := sz_plain BB.out hb)); have BC := BB.out.size; have BB := Lib.hid (by (first | (exact on_drew BB.out hb) | (exact on_drew1 BB.out hb) | (exact on_plain BB.out hb))); have O := Lib.hid (by (first | (exact ra_drew O.out hb) | (exact ra_drew1 O.out hb) | (exact ownw_below O.out hb))); have G := Lib.hid ho; clear hb ho; obtain ⟨e0, e1, e2, e3, e4, e5, _⟩ := I6.out.below BB.out)))
  clear c0 c1 c2 c3 c4 c5 d0 d1 d2 d3 d4 d5 e0 e1 e2 e3 e4 e5
  go_wp2_with fail
  refine (eqVectorS_ok (ownw_rd G.out) (ownw_rd O.out) hm hX).mono ?_
  rintro e w5 ⟨rfl, hb⟩
  have BB := Lib.hid (on_plain BB.out hb)
  have O := Lib.hid (ownw_below O.out hb)
  have G := Lib.hid (ownw_below G.out hb)
  clear hb
  go_wp2_with fail
  refine (mark_VectorS G.out hm (show 1 ≤ 4 by omega)).mono ?_
  rintro e w6 ⟨rfl, ho, hs⟩
  have BB := Lib.hid (hs.below BB.out (by omega))
  have O := Lib.hid (ownw_save O.out hs (by first | exact .inl (by omega) | exact .inr (by omega)))
  have G := Lib.hid ho
  clear ho hs
  go_wp2_with fail
  refine (held_VectorS G.out hm (show 1 ≤ 4 by omega)).mono ?_
  rintro e w' ⟨rfl, rfl⟩
  go_wp2_with fail
  obtain ⟨c0, c1, c2, c3, c4, c5, _⟩ := I6.out.below BB.out
  go_region_held3 (fun w' => w'.cell? ⟨w.heap.size, 0, none⟩ = some (.float .f32 a) ∧ w'.cell? ⟨w.heap.size, 1, none⟩ = some (.float .f32 b) ∧ w'.cell? ⟨w.heap.size, 2, none⟩ = some (.float .f32 c) ∧ w'.cell? ⟨w.heap.size + 1, 0, none⟩ = some (.float .f32 a') ∧ w'.cell? ⟨w.heap.size + 1, 1, none⟩ = some (.float .f32 b') ∧ w'.cell? ⟨w.heap.size + 1, 2, none⟩ = some (.float .f32 c')) (go_keep)
    ((first
      | (go_at_call 6; with_reducible refine (TV.out _ _ _ _).mono ?_; rintro e w1 ⟨rfl, hb⟩; (first | (have zz := sz_drew BB.out hb) | (have zz := sz_drew1 BB.out hb) | (have zz := sz_plain BB.out hb)); have BB := Lib.hid (by (first | (exact on_drew BB.out hb) | (exact on_drew1 BB.out hb) | (exact on_plain BB.out hb))); have O := Lib.hid (by (first | (exact ra_drew O.out hb) | (exact ra_drew1 O.out hb) | (exact ownw_below O.out hb))); have G := Lib.hid (by (first | (exact ra_drew G.out hb) | (exact ra_drew1 G.out hb) | (exact ownw_below G.out hb))); clear hb; obtain ⟨d0, d1, d2, d3, d4, d5, _⟩ := I6.out.below BB.out)
      | (go_at_call 7; refine (IM.out _).mono ?_; rintro e w2 ⟨g8, rfl, hb, ho⟩; (first | (have zz := sz_drew BB.out hb) | (have zz := sz_drew1 BB.out hb) | (have zz := sz_plain BB.out hb)); have BC := BB.out.size; have BB := Lib.hid (by (first | (exact on_drew BB.out hb) | (exact on_drew1 BB.out hb) | (exact on_plain BB.out hb))); have O := Lib.hid (by (first | (exact ra_drew O.out hb) | (exact ra_drew1 O.out hb) | (exact ownw_below O.out hb))); have G := Lib.hid (by (first | (exact ra_drew G.out hb) | (exact ra_drew1 G.out hb) | (exact ownw_below G.out hb))); have U := Lib.hid ho; clear hb ho; obtain ⟨e0, e1, e2, e3, e4, e5, _⟩ := I6.out.below BB.out)))
  clear c0 c1 c2 c3 c4 c5 d0 d1 d2 d3 d4 d5 e0 e1 e2 e3 e4 e5
  go_wp2_with fail
  refine (eqVectorS_ok (ownw_rd U.out) (ownw_rd O.out) hm hX).mono ?_
  rintro e w9 ⟨rfl, hb⟩
  have BB := Lib.hid (on_plain BB.out hb)
  have G := Lib.hid (ownw_below G.out hb)
  clear hb
  go_wp2_with fail
  refine (held_VectorS G.out hm (show 1 ≤ 4 by omega)).mono ?_
  rintro e w' ⟨rfl, rfl⟩
  go_wp2_with fail
  go_ret
  exact ⟨rfl, HW.out.trans (BB.out.mono HW.out.size)⟩

end Go.Proofs.Ytaghfffbhgpalaa
