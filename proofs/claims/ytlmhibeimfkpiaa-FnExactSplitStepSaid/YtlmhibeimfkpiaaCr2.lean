/- CrossOfVectors of the specification, whole. -/
import Derived.Test.YtlmhibeimfkpiaaKae
import Derived.Test.YtlmhibeimfkpiaaV6
namespace Go.Proofs.Ytlmhibeimfkpiaa
open Go.RowKit
attribute [local go_sem ↓] Go.wp_at_zero Go.wp_at_succ

/-- What CrossOfVectors answers. -/
def crossRes (a b c a' b' c' : Nat) : Value := if (fin a && fin b && fin c) && (fin a' && fin b' && fin c') then vecO (partO b c' c b') (partO c a' a c') (partO a b' b a') else .tuple #[.agg #[.float .f32 0, .float .f32 0, .float .f32 0], .int .i64 1]

theorem vecO_form (o p q : Option Nat) : ∃ (x y z : Nat) (k : Int), vecO o p q = .tuple #[.agg #[.float .f32 x, .float .f32 y, .float .f32 z], .int .i64 k] := by
  unfold vecO
  split
  · exact ⟨_, _, _, _, rfl⟩
  · exact ⟨_, _, _, _, rfl⟩

def Wd (x : Nat) : Prop := x < 4294967296

theorem part_g (x y z u : Nat) (w : World) (hx : Wd x) (hy : Wd y) (hz : Wd z) (hu : Wd u) :
    Calls Try.prog 36 #[.float .f32 x, .float .f32 y, .float .f32 z, .float .f32 u] w fun e w' => (∃ r, e = .returned (.float .f32 r) ∧ Fw (partO x y z u) r) ∧ ∃ n, w.drewN n = w' := l09Part_ok x y z u w hx hy hz hu

/-- A vector in a block that may be written. -/
structure VR (W : World) (B x y z : Nat) : Prop where
  c0 : W.cell? ⟨B, 0, none⟩ = some (.float .f32 x)
  c1 : W.cell? ⟨B, 1, none⟩ = some (.float .f32 y)
  c2 : W.cell? ⟨B, 2, none⟩ = some (.float .f32 z)
  f0 : W.frozen? ⟨B, 0, none⟩ = false
  f1 : W.frozen? ⟨B, 1, none⟩ = false
  f2 : W.frozen? ⟨B, 2, none⟩ = false
  lt : B < W.heap.size

theorem VR.below {W W' : World} {B x y z : Nat} (h : VR W B x y z) (hb : Below W.heap.size W W') : VR W' B x y z :=
  ⟨(hb.cell (p := ⟨B, 0, none⟩) h.lt).trans h.c0, (hb.cell (p := ⟨B, 1, none⟩) h.lt).trans h.c1, (hb.cell (p := ⟨B, 2, none⟩) h.lt).trans h.c2,
   (hb.frozen (p := ⟨B, 0, none⟩) h.lt).trans h.f0, (hb.frozen (p := ⟨B, 1, none⟩) h.lt).trans h.f1, (hb.frozen (p := ⟨B, 2, none⟩) h.lt).trans h.f2, Nat.lt_of_lt_of_le h.lt hb.size⟩

theorem VR.new (W : World) (T : TypeId) (x y z : Nat) : VR (W.alloc (.cells #[.float .f32 x, .float .f32 y, .float .f32 z] T)) W.heap.size x y z :=
  ⟨by simp [go_sem], by simp [go_sem], by simp [go_sem], by simp [go_sem], by simp [go_sem], by simp [go_sem], by simp⟩

theorem cr_below {B : Nat} {a W w' : World} {n : Nat} (hb : Below (W.drewN n).heap.size (W.drewN n) w') (h : Below B a W) (hB : B ≤ W.heap.size) : Below B a w' := below_step hb (below_drewN h n) hB

theorem cr_vr {W w' : World} {n B x y z : Nat} (hb : Below (W.drewN n).heap.size (W.drewN n) w') (h : VR W B x y z) : VR w' B x y z := (h.below (below_drewN (Below.refl _ _) n)).below hb

set_option maxRecDepth 100000 in
set_option maxHeartbeats 4000000 in
theorem specCross (a b c a' b' c' : Nat) (w : World) (ha : a < 4294967296) (hb : b < 4294967296) (hc : c < 4294967296) (ha' : a' < 4294967296) (hb' : b' < 4294967296) (hc' : c' < 4294967296) :
    Calls Try.prog 10 #[.agg #[.float .f32 a, .float .f32 b, .float .f32 c], .agg #[.float .f32 a', .float .f32 b', .float .f32 c']] w fun e w' => e = .returned (crossRes a b c a' b' c') ∧ Below w.heap.size w w' := by
  have HV := Lib.hid (fun w => l09Is_any a b c w ha hb hc)
  have HW := Lib.hid (fun w => l09Is_any a' b' c' w ha' hb' hc')
  have PP := Lib.hid part_g
  have wa : Wd a := ha
  have wb : Wd b := hb
  have wc : Wd c := hc
  have wa' : Wd a' := ha'
  have wb' : Wd b' := hb'
  have wc' : Wd c' := hc'
  unfold crossRes
  clear ha hb hc ha' hb' hc'
  generalize (fin a && fin b && fin c) = p at *
  generalize (fin a' && fin b' && fin c') = q at *
  obtain ⟨r0, r1, r2, k, hform⟩ := vecO_form (partO b c' c b') (partO c a' a c') (partO a b' b a')
  rw [hform]
  have HT := Lib.hid (fun (x y z : Nat) w (hx : Fw (partO b c' c b') x) (hy : Fw (partO c a' a c') y) (hz : Fw (partO a b' b a') z) => by
    have := l09Told_any x y z w hx.1 hy.1 hz.1
    rw [vecO_of hx hy hz, hform] at this
    exact this)
  clear hform
  cases p
  · go_enter Try.func10, Try.ntmps10
    go_wp2_with fail
    refine (HV.out _).mono ?_
    rintro e w1 ⟨rfl, hb1⟩
    obtain ⟨hc1, hf1⟩ := bcell hb1
    have hz1 : w.heap.size + 1 + 1 < w1.heap.size := by have := hb1.size; simp at this; omega
    have hz1a : w.heap.size < w1.heap.size := by omega
    have hz1b : w.heap.size + 1 < w1.heap.size := by omega
    have HB1 := Lib.hid hb1
    clear hb1
    go_wp2_with fail
    exact bodyPost_ret (v := .tuple #[.agg #[.float .f32 0, .float .f32 0, .float .f32 0], .int .i64 1]) (by simp [results, Try.results10, go_sem, hc1, hz1, hz1a, hz1b]) rfl ⟨rfl, (((((Below.refl _ _).alloc (Nat.le_refl _) _).alloc (by simp) _).alloc (by simp; omega) _).trans (HB1.out.mono (by simp; omega))).setCell (by simp; omega) _ |>.setCell (by simp; omega) _ |>.setCell (by simp; omega) _⟩
  cases q
  · go_enter Try.func10, Try.ntmps10
    go_wp2_with fail
    refine (HV.out _).mono ?_
    rintro e w1 ⟨rfl, hb1⟩
    obtain ⟨hc1, hf1⟩ := bcell hb1
    have hz1 : w.heap.size + 1 + 1 < w1.heap.size := by have := hb1.size; simp at this; omega
    have hz1a : w.heap.size < w1.heap.size := by omega
    have hz1b : w.heap.size + 1 < w1.heap.size := by omega
    have HB1 := Lib.hid hb1
    clear hb1
    go_wp2_with fail
    refine (HW.out _).mono ?_
    rintro e w2 ⟨rfl, hb2⟩
    obtain ⟨hc2, hf2⟩ := bcell hb2
    have hz2 : w.heap.size + 1 + 1 < w2.heap.size := by have := hb2.size; omega
    have hz2a : w.heap.size < w2.heap.size := by omega
    have hz2b : w.heap.size + 1 < w2.heap.size := by omega
    have HB2 := Lib.hid hb2
    clear hb2
    go_wp2_with fail
    have hsz : w.heap.size ≤ w1.heap.size := by omega
    exact bodyPost_ret (v := .tuple #[.agg #[.float .f32 0, .float .f32 0, .float .f32 0], .int .i64 1]) (by simp [results, Try.results10, go_sem, hc1, hc2, hz1, hz2, hz1a, hz1b, hz2a, hz2b]) rfl ⟨rfl, ((((((Below.refl _ _).alloc (Nat.le_refl _) _).alloc (by simp) _).alloc (by simp; omega) _).trans (HB1.out.mono (by simp; omega))).trans (HB2.out.mono hsz)).setCell (by simp; omega) _ |>.setCell (by simp; omega) _ |>.setCell (by simp; omega) _⟩
  · go_enter Try.func10, Try.ntmps10
    go_wp2_with fail
    refine (HV.out _).mono ?_
    rintro e w1 ⟨rfl, hb1⟩
    have V1 := Lib.hid (show VR w1 w.heap.size a b c from (VR.new w 24 a b c).below ((((Below.refl _ _).alloc (Nat.le_refl _) _).alloc (by simp) _).trans (hb1.mono (by simp))))
    have U1 := Lib.hid (show VR w1 (w.heap.size + 1) a' b' c' by
      have := (VR.new (w.alloc (.cells #[.float .f32 a, .float .f32 b, .float .f32 c] 24)) 24 a' b' c').below (((Below.refl _ _).alloc (Nat.le_refl _) _).trans (hb1.mono (by simp)))
      simpa using this)
    have R1 := Lib.hid (show VR w1 (w.heap.size + 1 + 1) 0 0 0 by
      have := (VR.new ((w.alloc (.cells #[.float .f32 a, .float .f32 b, .float .f32 c] 24)).alloc (.cells #[.float .f32 a', .float .f32 b', .float .f32 c'] 24)) 24 0 0 0).below hb1
      simpa using this)
    have HB1 := Lib.hid (show Below w.heap.size w w1 from below_step hb1 ((((Below.refl _ _).alloc (Nat.le_refl _) _).alloc (by simp) _).alloc (by simp; omega) _) (by simp; omega))
    clear hb1
    obtain ⟨c0, c1, c2, _, _, _, _⟩ := V1.out
    obtain ⟨c3, c4, c5, _, _, _, _⟩ := U1.out
    go_wp2_with fail
    refine (HW.out _).mono ?_
    rintro e w2 ⟨rfl, hb2⟩
    have V2 := Lib.hid (V1.out.below hb2)
    have U2 := Lib.hid (U1.out.below hb2)
    have R2 := Lib.hid (R1.out.below hb2)
    have HB2 := Lib.hid (below_step hb2 HB1.out HB1.out.size)
    clear hb2 c0 c1 c2 c3 c4 c5 V1 U1 R1 HB1 HV HW
    go_wp2_with fail
    obtain ⟨c0, c1, c2, _, _, _, _⟩ := V2.out
    obtain ⟨c3, c4, c5, _, _, _, _⟩ := U2.out
    have n1 : ¬ w.heap.size = w.heap.size + 1 + 1 := by omega
    have n2 : ¬ w.heap.size + 1 + 1 = w.heap.size := by omega
    go_region_held3 (fun w' => w'.cell? ⟨w.heap.size, 0, none⟩ = some (.float .f32 a) ∧ w'.cell? ⟨w.heap.size, 1, none⟩ = some (.float .f32 b) ∧ w'.cell? ⟨w.heap.size, 2, none⟩ = some (.float .f32 c) ∧ w'.cell? ⟨w.heap.size + 1, 0, none⟩ = some (.float .f32 a') ∧ w'.cell? ⟨w.heap.size + 1, 1, none⟩ = some (.float .f32 b') ∧ w'.cell? ⟨w.heap.size + 1, 2, none⟩ = some (.float .f32 c')) (go_keep)
      (first | (go_at_call 36; with_reducible refine (PP.out _ _ _ _ _ ?_ ?_ ?_ ?_).mono ?_; assumption; assumption; assumption; assumption; rintro e w' ⟨⟨z, rfl, hz⟩, n, rfl⟩) | (go_at_call 35; with_reducible refine (HT.out _ _ _ _ ?_ ?_ ?_).mono ?_; assumption; assumption; assumption; rintro e w5 ⟨rfl, hb5⟩; have HB5 := Lib.hid (cr_below hb5 HB2.out HB2.out.size); obtain ⟨y0, y1, y2, g0, g1, g2, hlt⟩ := cr_vr hb5 R2.out; obtain ⟨k0, k1, k2, _, _, _, _⟩ := cr_vr hb5 V2.out; obtain ⟨k3, k4, k5, _, _, _, _⟩ := cr_vr hb5 U2.out))
    all_goals
      go_wp2_with fail
      refine bodyPost_ret (v := .tuple #[.agg #[.float .f32 r0, .float .f32 r1, .float .f32 r2], .int .i64 k]) (by simp [results, Try.results10, go_sem, y0, y1, y2, g0, g1, g2, hlt]) rfl ⟨rfl, ?_⟩
      exact ((HB5.out.setCell (by simp; omega) _).setCell (by simp; omega) _).setCell (by simp; omega) _

end Go.Proofs.Ytlmhibeimfkpiaa
