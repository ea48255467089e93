/- Walks: numbers are drawn. -/
import Derived.Test.YtffilcmcjelajaaS2
import Derived.Test.YtffilcmcjelajaaW3
namespace Go.Proofs.Ytffilcmcjelajaa
open Go.RowKit

def PickPost (W0 : World) (c : Value) (len B : Nat) (P : Int → Prop) (w : World) (e : Ending) (w' : World) : Prop := ∃ x : Int, e = .returned (.int .i64 x) ∧ P x ∧ Src W0 c len B w' ∧ Only B w w'

theorem only_cell {B : Nat} {w w' : World} (h : Only B w w') {p : Addr} (hp : p.block ≠ B) : w'.cell? p = w.cell? p := World.cell?_of_block (w := w) (h.2 p.block hp)

set_option maxHeartbeats 400000 in
theorem pick_any (W0 : World) (c : Value) (len B : Nat) (P : Int → Prop) (L k : Nat) (w : World) (hcode : Code W0 c len) (hlen : (len : Int) ≤ 4096) (hs : Src W0 c len B w) (hLB : L ≠ B) (hk : 1 ≤ (k : Int)) (hk2 : (k : Int) < 2147483648)
    (hcells : ∀ j : Int, 0 ≤ j → j < (k : Int) → ∃ v : Int, w.cell? ⟨L, 0 + j.toNat, none⟩ = some (.int .i64 v) ∧ P v) :
    Calls Try.prog 29 #[.pointer (some ⟨B, 0, none⟩), .slice (some ⟨L, 0, none⟩) k k] w (PickPost W0 c len B P w) := by
  have HC := Lib.hid hcells
  have HL := Lib.hid hLB
  have HS := Lib.hid hs
  have HCode := Lib.hid hcode
  clear hcells hLB hs hcode
  go_enter Try.func29, Try.ntmps29
  go_wp2_with fail
  refine (next_any W0 c len B _ _ HCode.out hlen HS.out hk hk2).mono ?_
  rintro e w1 ⟨x, rfl, hx0, hx1, hs1, ho1⟩
  obtain ⟨v, hv, hp⟩ := HC.out x hx0 hx1
  have hv1 : w1.cell? ⟨L, 0 + x.toNat, none⟩ = some (.int .i64 v) := by rw [only_cell ho1 (p := ⟨L, 0 + x.toNat, none⟩) HL.out]; exact hv
  have hv2 : w1.cell? ⟨L, x.toNat, none⟩ = some (.int .i64 v) := by rw [Nat.zero_add] at hv1; exact hv1
  have HP := Lib.hid hp
  have HO1 := Lib.hid ho1
  have HS1 := Lib.hid hs1
  have HV := Lib.hid hv
  clear hv hp ho1 hs1
  go_wp2_with fail
  go_ret
  exact ⟨_, rfl, HP.out, HS1.out, HO1.out⟩

def DrawPost (W0 : World) (c : Value) (len B : Nat) (e : Ending) (w' : World) : Prop := ∃ y : Nat, e = .returned (.float .f32 y) ∧ y < 4294967296 ∧ Src W0 c len B w'
def FinPost (W0 : World) (c : Value) (len B : Nat) (e : Ending) (w' : World) : Prop := ∃ y : Nat, e = .returned (.float .f32 y) ∧ y < 4294967296 ∧ fin y = true ∧ Src W0 c len B w'

theorem wordAt_fin (i : Int) (h1 : -2139095040 < i) (h2 : i < 2139095040) : wordAt i < 4294967296 ∧ fin (wordAt i) = true := by
  unfold fin mag wordAt
  split
  · exact ⟨by omega, decide_eq_true (by omega)⟩
  · exact ⟨by omega, decide_eq_true (by omega)⟩

theorem Src.alloc {W0 : World} {c : Value} {len B : Nat} {w : World} (h : Src W0 c len B w) (o : Obj) : Src W0 c len B (w.alloc o) := by
  obtain ⟨a, b, d, e, ⟨i, g, f1, f2, f3, f4⟩, f5, f6⟩ := h
  have hne : ∀ o' : Nat, (⟨B, o', none⟩ : Addr).block ≠ w.heap.size := fun _ => by show B ≠ w.heap.size; omega
  refine ⟨a.alloc a.size _, b, by simp; omega, ?_, ⟨i, g, ?_, ?_, f3, f4⟩, ?_, ?_⟩
  · rw [World.cell?_alloc_old (h := hne 0)]; exact e
  · rw [World.cell?_alloc_old (h := hne 1)]; exact f1
  · rw [World.cell?_alloc_old (h := hne 2)]; exact f2
  · rw [((Below.refl w.heap.size w).alloc (Nat.le_refl _) o).frozen (p := ⟨B, 1, none⟩) d]; exact f5
  · rw [((Below.refl w.heap.size w).alloc (Nat.le_refl _) o).frozen (p := ⟨B, 2, none⟩) d]; exact f6

set_option maxHeartbeats 1000000 in
theorem number_any (W0 : World) (c : Value) (len B : Nat) (w : World) (hcode : Code W0 c len) (hlen : (len : Int) ≤ 4096) (hs : Src W0 c len B w) :
    Calls Try.prog 22 #[.pointer (some ⟨B, 0, none⟩)] w (FinPost W0 c len B) := by
  have HS := Lib.hid hs
  have HCode := Lib.hid hcode
  clear hs hcode
  have HN := Lib.hid (fun (w : World) (n : Int) (hs : Src W0 c len B w) (h1 : 1 ≤ n) (h2 : n < 2147483648) => next_any W0 c len B n w HCode.out hlen hs h1 h2)
  go_enter Try.func22, Try.ntmps22
  go_wp2_with fail
  refine (HN.out _ _ HS.out (by omega) (by omega)).mono ?_
  rintro e w1 ⟨p0, rfl, hp0, hp1, hs1, _⟩
  clear HS
  go_wp2_with fail
  refine (HN.out _ _ hs1 (by omega) (by omega)).mono ?_
  rintro e w2 ⟨x, rfl, hx0, hx1, hs2, _⟩
  clear hs1
  rcases (show x = 0 ∨ x = 1 ∨ x = 2 ∨ x = 3 ∨ x = 4 ∨ 5 ≤ x by omega) with rfl | rfl | rfl | rfl | rfl | hx5
  · go_wp2_with fail
    refine (HN.out _ _ hs2 (by omega) (by omega)).mono ?_
    rintro e w3 ⟨q, rfl, hq0, hq1, hs3, _⟩
    clear hs2
    go_wp2_with fail
    refine (HN.out _ _ hs3 (by omega) (by omega)).mono ?_
    rintro e w4 ⟨sg, rfl, hg0, hg1, hs4, _⟩
    clear hs3
    rcases (show sg = 0 ∨ 1 ≤ sg by omega) with rfl | hsg
    all_goals
      go_wp2_with fail
      refine (float_any _ _ (by omega) (by omega)).mono ?_
      rintro e w5 ⟨rfl, rfl⟩
      go_wp2_with fail
      go_ret
      exact ⟨_, rfl, (wordAt_fin _ (by omega) (by omega)).1, (wordAt_fin _ (by omega) (by omega)).2, hs4⟩
  · go_wp2_with fail
    refine (HN.out _ _ hs2 (by omega) (by omega)).mono ?_
    rintro e w3 ⟨q, rfl, hq0, hq1, hs3, _⟩
    clear hs2
    go_wp2_with fail
    refine (HN.out _ _ hs3 (by omega) (by omega)).mono ?_
    rintro e w4 ⟨sg, rfl, hg0, hg1, hs4, _⟩
    clear hs3
    rcases (show sg = 0 ∨ 1 ≤ sg by omega) with rfl | hsg
    all_goals
      go_wp2_with fail
      refine (float_any _ _ (by omega) (by omega)).mono ?_
      rintro e w5 ⟨rfl, rfl⟩
      go_wp2_with fail
      go_ret
      exact ⟨_, rfl, (wordAt_fin _ (by omega) (by omega)).1, (wordAt_fin _ (by omega) (by omega)).2, hs4⟩
  · go_wp2_with fail
    refine (HN.out _ _ hs2 (by omega) (by omega)).mono ?_
    rintro e w3 ⟨q, rfl, hq0, hq1, hs3, _⟩
    clear hs2
    go_wp2_with fail
    refine (HN.out _ _ hs3 (by omega) (by omega)).mono ?_
    rintro e w4 ⟨sg, rfl, hg0, hg1, hs4, _⟩
    clear hs3
    rcases (show sg = 0 ∨ 1 ≤ sg by omega) with rfl | hsg
    all_goals
      go_wp2_with fail
      refine (float_any _ _ (by omega) (by omega)).mono ?_
      rintro e w5 ⟨rfl, rfl⟩
      go_wp2_with fail
      go_ret
      exact ⟨_, rfl, (wordAt_fin _ (by omega) (by omega)).1, (wordAt_fin _ (by omega) (by omega)).2, hs4⟩
  · go_wp2_with fail
    refine (HN.out _ _ hs2 (by omega) (by omega)).mono ?_
    rintro e w3 ⟨q, rfl, hq0, hq1, hs3, _⟩
    clear hs2
    go_wp2_with fail
    refine (HN.out _ _ hs3 (by omega) (by omega)).mono ?_
    rintro e w4 ⟨sg, rfl, hg0, hg1, hs4, _⟩
    clear hs3
    rcases (show sg = 0 ∨ 1 ≤ sg by omega) with rfl | hsg
    all_goals
      go_wp2_with fail
      refine (float_any _ _ (by omega) (by omega)).mono ?_
      rintro e w5 ⟨rfl, rfl⟩
      go_wp2_with fail
      go_ret
      exact ⟨_, rfl, (wordAt_fin _ (by omega) (by omega)).1, (wordAt_fin _ (by omega) (by omega)).2, hs4⟩
  · go_wp2_with fail
    refine (pick_any W0 c len B (fun v => v = 63 ∨ v = 190 ∨ v = 52) w2.heap.size 3 _ HCode.out hlen (hs2.alloc _) (by have := hs2.lies; omega) (by decide) (by decide) ?_).mono ?_
    · intro j j0 j1
      rcases (show j = 0 ∨ j = 1 ∨ j = 2 by omega) with rfl | rfl | rfl
      · exact ⟨63, World.cell?_alloc_new .., .inl rfl⟩
      · exact ⟨190, World.cell?_alloc_new .., .inr (.inl rfl)⟩
      · exact ⟨52, World.cell?_alloc_new .., .inr (.inr rfl)⟩
    rintro e w3 ⟨v, rfl, hv, hs3, _⟩
    clear hs2
    have hv0 : 0 ≤ v ∧ v ≤ 190 := by omega
    clear hv
    obtain ⟨hv0, hv1⟩ := hv0
    go_wp2_with fail
    refine (HN.out _ _ hs3 (by omega) (by omega)).mono ?_
    rintro e w6 ⟨q, rfl, hq0, hq1, hs6, _⟩
    clear hs3
    go_wp2_with fail
    refine (HN.out _ _ hs6 (by omega) (by omega)).mono ?_
    rintro e w4 ⟨sg, rfl, hg0, hg1, hs4, _⟩
    clear hs6
    rcases (show sg = 0 ∨ 1 ≤ sg by omega) with rfl | hsg
    all_goals
      go_wp2_with fail
      refine (float_any _ _ (by omega) (by omega)).mono ?_
      rintro e w5 ⟨rfl, rfl⟩
      go_wp2_with fail
      go_ret
      exact ⟨_, rfl, (wordAt_fin _ (by omega) (by omega)).1, (wordAt_fin _ (by omega) (by omega)).2, hs4⟩
  · have hxn : ∀ i : Int, i ≤ 4 → (x == i) = false := fun i hi => by simp; omega
    have hx0' := hxn 0 (by omega)
    have hx1' := hxn 1 (by omega)
    have hx2' := hxn 2 (by omega)
    have hx3' := hxn 3 (by omega)
    have hx4' := hxn 4 (by omega)
    clear hxn
    go_wp2_with fail
    refine (HN.out _ _ hs2 (by omega) (by omega)).mono ?_
    rintro e w4 ⟨sg, rfl, hg0, hg1, hs4, _⟩
    clear hs2
    rcases (show sg = 0 ∨ 1 ≤ sg by omega) with rfl | hsg
    all_goals
      go_wp2_with fail
      refine (float_any _ _ (by omega) (by omega)).mono ?_
      rintro e w5 ⟨rfl, rfl⟩
      go_wp2_with fail
      go_ret
      exact ⟨_, rfl, (wordAt_fin _ (by omega) (by omega)).1, (wordAt_fin _ (by omega) (by omega)).2, hs4⟩
end Go.Proofs.Ytffilcmcjelajaa
