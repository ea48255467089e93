/- The source of numbers, with what it stands at. Walks: a text is damaged. -/
import Derived.Test.YtojcdhnpdinbpaaGreatDoorDq
import Derived.Test.YtojcdhnpdinbpaaGreatDoorLc
namespace Go.Proofs.YtojcdhnpdinbpaaGreatDoor
open Go.RowKit

/-- A source that has handed out i bytes of its code and stands at s. -/
structure SrcAt (W0 : World) (c : Value) (len B : Nat) (i s : Nat) (w : World) : Prop where
  src : Src W0 c len B w
  at1 : w.cell? ⟨B, 1, none⟩ = some (.int .i64 (i : Int))
  at2 : ∃ h : Int, w.cell? ⟨B, 2, none⟩ = some (.int .u64 h) ∧ (h % 18446744073709551616).toNat = s
  most : i ≤ len

theorem Src.tracked {W0 : World} {c : Value} {len B : Nat} {w : World} (h : Src W0 c len B w) : ∃ i s, SrcAt W0 c len B i s w := by
  have hS := h
  obtain ⟨_, _, _, _, ⟨i, g, h1, h2, h3, h4⟩, _, _⟩ := h
  refine ⟨i.toNat, _, hS, ?_, ⟨g, h2, rfl⟩, by omega⟩
  rw [h1]; congr 2; omega

theorem SrcAt.lt {W0 : World} {c : Value} {len B i s : Nat} {w : World} (h : SrcAt W0 c len B i s w) : s < 18446744073709551616 := by
  obtain ⟨g, _, hg⟩ := h.at2
  omega

theorem SrcAt.alloc {W0 : World} {c : Value} {len B i s : Nat} {w : World} (h : SrcAt W0 c len B i s w) (o : Obj) : SrcAt W0 c len B i s (w.alloc o) := by
  have hl := h.src.lies
  have hne : ∀ o' : Nat, (⟨B, o', none⟩ : Addr).block ≠ w.heap.size := fun _ => by show B ≠ w.heap.size; omega
  refine ⟨h.src.alloc o, ?_, ?_, h.most⟩
  · rw [World.cell?_alloc_old (h := hne 1)]; exact h.at1
  · obtain ⟨g, h1, h2⟩ := h.at2
    exact ⟨g, by rw [World.cell?_alloc_old (h := hne 2)]; exact h1, h2⟩

theorem SrcAt.drewN {W0 : World} {c : Value} {len B i s : Nat} {w : World} (h : SrcAt W0 c len B i s w) (n : Nat) : SrcAt W0 c len B i s (w.drewN n) :=
  ⟨h.src.drewN n, h.at1, h.at2, h.most⟩

theorem step_word (h : Int) : IntKind.u64.wrap (IntKind.u64.wrap (h * 6364136223846793005) + 1442695040888963407) = ((Lc.stp (h % 18446744073709551616).toNat : Nat) : Int) := by
  have e : ∀ q, IntKind.u64.wrap q = q % 18446744073709551616 := fun _ => rfl
  rw [e, e]
  unfold Lc.stp
  have h0 : 0 ≤ h % 18446744073709551616 := Int.emod_nonneg _ (by decide)
  rw [Int.natCast_emod, Int.natCast_add, Int.natCast_mul, Int.toNat_of_nonneg h0]
  show (h * 6364136223846793005 % 18446744073709551616 + 1442695040888963407) % 18446744073709551616 = (h % 18446744073709551616 * 6364136223846793005 + 1442695040888963407) % 18446744073709551616
  rw [Int.add_emod, Int.emod_emod, ← Int.add_emod, Int.add_emod (h % 18446744073709551616 * 6364136223846793005), Int.mul_emod (h % 18446744073709551616), Int.emod_emod, ← Int.mul_emod, ← Int.add_emod]

theorem and_word (q : Nat) (h : q < 18446744073709551616) : bits .and .u64 (((q : Nat) : Int) / 8589934592) 2147483647 = ((q / 8589934592 : Nat) : Int) := by
  have h1 := Go.u64_and ((q : Int) / 8589934592) 2147483647 (by omega) (by omega) (by omega) (by omega)
  rw [h1]
  congr 1
  have e1 : ((q : Int) / 8589934592).toNat = q / 8589934592 := by omega
  have e2 : (2147483647 : Int).toNat = 2 ^ 31 - 1 := by decide
  rw [e1, e2, Nat.and_two_pow_sub_one_eq_mod]
  omega

def NextAt (W0 : World) (c : Value) (len B : Nat) (i s : Nat) (n : Int) (w : World) (e : Ending) (w' : World) : Prop :=
  ∃ (x : Int) (j : Nat), e = .returned (.int .i64 x) ∧ 0 ≤ x ∧ x < n ∧ SrcAt W0 c len B j (Lc.stp s) w' ∧ Only B w w' ∧ (i < len → j = i + 1) ∧ (¬ i < len → j = i ∧ x = ((Lc.stp s / 8589934592 : Nat) : Int) % n)

theorem SrcAt.set2 {W0 : World} {c : Value} {len B i s : Nat} {w : World} (h : SrcAt W0 c len B i s w) (t : Nat) (ht : t < 18446744073709551616) (v : Int) (hv : ((t : Nat) : Int) = v) : SrcAt W0 c len B i t (w.setCell ⟨B, 2, none⟩ (.int .u64 v)) := by
  obtain ⟨g, h1, _⟩ := h.at2
  have e1 : (w.setCell ⟨B, 2, none⟩ (.int .u64 v)).cell? ⟨B, 1, none⟩ = some (.int .i64 (i : Int)) := by
    rw [World.cell?_setCell_other (h := by simp)]; exact h.at1
  have e2 : (w.setCell ⟨B, 2, none⟩ (.int .u64 v)).cell? ⟨B, 2, none⟩ = some (.int .u64 v) := World.cell?_setCell_same (h := h1) ..
  exact { src := h.src.set2 v, at1 := e1, at2 := ⟨v, e2, by omega⟩, most := h.most }

theorem SrcAt.set1 {W0 : World} {c : Value} {len B i s : Nat} {w : World} (h : SrcAt W0 c len B i s w) (hi : i < len) (k : Int) (hk : (i : Int) = k) : SrcAt W0 c len B (i + 1) s (w.setCell ⟨B, 1, none⟩ (.int .i64 (k + 1))) := by
  obtain ⟨g, h1, h2⟩ := h.at2
  have e1 : (w.setCell ⟨B, 1, none⟩ (.int .i64 (k + 1))).cell? ⟨B, 1, none⟩ = some (.int .i64 ((i + 1 : Nat) : Int)) := by
    rw [World.cell?_setCell_same (h := h.at1)]; congr 2; omega
  have e2 : (w.setCell ⟨B, 1, none⟩ (.int .i64 (k + 1))).cell? ⟨B, 2, none⟩ = some (.int .u64 g) := by
    rw [World.cell?_setCell_other (h := by simp)]; exact h1
  exact { src := h.src.set1 _ (by omega) (by omega), at1 := e1, at2 := ⟨g, e2, h2⟩, most := by omega }

set_option maxHeartbeats 400000 in
/-- The next number of a source. -/
theorem next_at (W0 : World) (c : Value) (len B i s : Nat) (n : Int) (w : World) (hcode : Code W0 c len) (hlen : (len : Int) ≤ 4096) (hs : SrcAt W0 c len B i s w) (hn : 1 ≤ n) (hn2 : n < 4611686018427387904) :
    Calls Tryz.prog 42 #[.pointer (some ⟨B, 0, none⟩), .int .i64 n] w (NextAt W0 c len B i s n w) := by
  have HS := Lib.hid hs
  obtain ⟨⟨hold, hown, hlies, hc0, _, hf1, hf2⟩, hc1, ⟨h, hc2, hh⟩, hi1⟩ := hs
  have e2 := step_word h
  rw [hh] at e2
  obtain ⟨t, ht⟩ : ∃ t, Lc.stp s = t := ⟨_, rfl⟩
  have htl : t < 18446744073709551616 := by rw [← ht]; exact Lc.stp_lt s
  rw [ht] at e2
  obtain ⟨h1, e1⟩ : ∃ h1, IntKind.u64.wrap (h * 6364136223846793005) = h1 := ⟨_, rfl⟩
  rw [e1] at e2
  have e3 := and_word t htl
  unfold NextAt
  rw [ht]
  have HTL := Lib.hid htl
  have HO := Lib.hid hold
  have HOwn := Lib.hid hown
  have HL := Lib.hid hlies
  have hy : (0 : Int) ≤ ((t / 8589934592 : Nat) : Int) ∧ ((t / 8589934592 : Nat) : Int) ≤ 2147483647 := by omega
  obtain ⟨y, ey⟩ : ∃ y : Int, ((t / 8589934592 : Nat) : Int) = y := ⟨_, rfl⟩
  rw [ey] at hy e3
  obtain ⟨hy0, hy1⟩ := hy
  obtain ⟨h2, eh2⟩ : ∃ h2 : Int, ((t : Nat) : Int) = h2 := ⟨_, rfl⟩
  rw [eh2] at e2 e3
  have HT2 := Lib.hid eh2
  have HEY := Lib.hid ey
  obtain ⟨k, hk⟩ : ∃ k : Int, (i : Int) = k := ⟨_, rfl⟩
  have HK := Lib.hid hk
  have hk0 : 0 ≤ k := by omega
  have hk1 : k ≤ (len : Int) := by omega
  rw [hk] at hc1
  clear hold hown hlies htl ht hh eh2 ey
  by_cases hlt : k < (len : Int)
  · obtain ⟨a, cap, rfl, hcode⟩ := hcode
    obtain ⟨b, off, rfl, hbW, hz⟩ := hcode (by omega)
    obtain ⟨z, hcz0, hz0, hz1⟩ := hz k hk0 hlt
    have hcz : w.cell? ⟨b, off + k.toNat, none⟩ = some (.int .u8 z) := by rw [HO.out.cell (p := ⟨b, off + k.toNat, none⟩) hbW]; exact hcz0
    have hbB : ¬ b = B := by have := HOwn.out; omega
    have hm : 0 ≤ (y + z) % n ∧ (y + z) % n < n := ⟨Int.emod_nonneg _ (by omega), Int.emod_lt_of_pos _ (by omega)⟩
    have HM := Lib.hid hm
    have hil : i < len := by omega
    have HIL := Lib.hid hil
    clear hz hcz0 hm hk hi1 hil
    go_enter Tryz.func42, Tryz.ntmps42
    go_wp2_with fail
    go_quiet (fail)
    go_wp2_with fail
    go_quiet (fail)
    go_wp2_with fail
    go_ret
    refine ⟨_, i + 1, rfl, HM.out.1, HM.out.2, ((HS.out.set2 t HTL.out _ HT2.out).drewN _).set1 HIL.out _ HK.out, ((only_set B _ 2 _).trans (only_drewN B _ _)).trans (only_set B _ 1 _), fun _ => rfl, fun hx => absurd HIL.out hx⟩
  · have hm : 0 ≤ y % n ∧ y % n < n := ⟨Int.emod_nonneg _ (by omega), Int.emod_lt_of_pos _ (by omega)⟩
    have HM := Lib.hid hm
    have hge : (len : Int) ≤ k := by omega
    have hil : ¬ i < len := by omega
    have HIL := Lib.hid hil
    clear hm hi1 hk hil
    obtain ⟨a, cap, rfl, hcode⟩ := hcode
    clear hcode
    go_enter Tryz.func42, Tryz.ntmps42
    go_wp2_with fail
    go_quiet (fail)
    go_wp2_with fail
    go_ret
    refine ⟨_, i, rfl, HM.out.1, HM.out.2, (HS.out.set2 t HTL.out _ HT2.out).drewN _, (only_set B _ 2 _).trans (only_drewN B _ _), fun hx => absurd hx HIL.out, fun _ => ⟨rfl, ?_⟩⟩
    rw [HEY.out]
end Go.Proofs.YtojcdhnpdinbpaaGreatDoor

namespace Go.Proofs.YtojcdhnpdinbpaaGreatDoor
open Go.RowKit

def DamagePost (W0 : World) (c : Value) (len B i s m : Nat) (e : Ending) (w' : World) : Prop :=
  ∃ (t : ByteArray) (j : Nat), e = .returned (.string t) ∧ t.size ≤ m + 1 ∧ SrcAt W0 c len B j (if m = 0 then Lc.stp s else Lc.stp (Lc.stp (Lc.stp s))) w' ∧ (i < len → i < j) ∧ (¬ i < len → j = i)

def oneSign : List Value := [.string ⟨#[48]⟩, .string ⟨#[49]⟩, .string ⟨#[55]⟩, .string ⟨#[102]⟩, .string ⟨#[120]⟩, .string ⟨#[45]⟩, .string ⟨#[44]⟩, .string ⟨#[32]⟩, .string ⟨#[43]⟩, .string ⟨#[121]⟩, .string ⟨#[103]⟩, .string ⟨#[10]⟩]

theorem sign_cell (w : World) (x : Int) (h0 : 0 ≤ x) (h1 : x < 12) :
    ∃ u : ByteArray, (w.alloc (.cells #[.string ⟨#[48]⟩, .string ⟨#[49]⟩, .string ⟨#[55]⟩, .string ⟨#[102]⟩, .string ⟨#[120]⟩, .string ⟨#[45]⟩, .string ⟨#[44]⟩, .string ⟨#[32]⟩, .string ⟨#[43]⟩, .string ⟨#[121]⟩, .string ⟨#[103]⟩, .string ⟨#[10]⟩] 9)).cell? ⟨w.heap.size, x.toNat, none⟩ = some (.string u) ∧ u.size = 1 := by
  have hx : x = 0 ∨ x = 1 ∨ x = 2 ∨ x = 3 ∨ x = 4 ∨ x = 5 ∨ x = 6 ∨ x = 7 ∨ x = 8 ∨ x = 9 ∨ x = 10 ∨ x = 11 := by omega
  rcases hx with rfl | rfl | rfl | rfl | rfl | rfl | rfl | rfl | rfl | rfl | rfl | rfl
  all_goals exact ⟨_, by simp [go_sem]; rfl, rfl⟩

set_option maxRecDepth 100000 in
set_option maxHeartbeats 400000 in
theorem damage_at (W0 : World) (c : Value) (len B i s : Nat) (t : ByteArray) (w : World) (hcode : Code W0 c len) (hlen : (len : Int) ≤ 4096) (hs : SrcAt W0 c len B i s w) (ht : t.size < 4611686018427387904) :
    Calls Tryz.prog 43 #[.pointer (some ⟨B, 0, none⟩), .string t] w (DamagePost W0 c len B i s t.size) := by
  have HN := Lib.hid (fun i s n w hs h1 h2 => next_at W0 c len B i s n w hcode hlen hs h1 h2)
  have HS := Lib.hid hs
  clear hs hcode
  go_enter Tryz.func43, Tryz.ntmps43
  go_wp2_with fail
  refine (HN.out _ _ _ _ (HS.out.alloc _) (by omega) (by omega)).mono ?_
  rintro e w1 ⟨x, j1, rfl, x0, x1, hs1, ho1, p1, q1⟩
  obtain ⟨u, hu, hu1⟩ := sign_cell w x x0 x1
  have hl := HS.out.src.lies
  have hv : w1.cell? ⟨w.heap.size, x.toNat, none⟩ = some (.string u) := by rw [only_cell ho1 (p := ⟨w.heap.size, x.toNat, none⟩) (by show w.heap.size ≠ B; omega)]; exact hu
  have HS1 := Lib.hid hs1
  have HP1 := Lib.hid p1
  have HQ1 := Lib.hid q1
  clear hs1 ho1 p1 q1 hu
  by_cases h0 : t.size = 0
  · have ht0 : (t.size : Int) = 0 := by omega
    go_wp2_with fail
    go_ret
    refine ⟨u, j1, rfl, by omega, by rw [if_pos h0]; exact HS1.out, fun h => by have := HP1.out h; omega, fun h => (HQ1.out h).1⟩
  · have ht0 : ¬ (t.size : Int) = 0 := by omega
    go_wp2_with fail
    refine (HN.out _ _ _ _ HS1.out (by omega) (by omega)).mono ?_
    rintro e w2 ⟨k, j2, rfl, k0, k1, hs2, ho2, p2, q2⟩
    have HS2 := Lib.hid hs2
    have HP2 := Lib.hid p2
    have HQ2 := Lib.hid q2
    clear hs2 ho2 p2 q2
    go_wp2_with fail
    refine (HN.out _ _ _ _ HS2.out (by omega) (by omega)).mono ?_
    rintro e w3 ⟨y, j3, rfl, y0, y1, hs3, ho3, p3, q3⟩
    have HE : Hid (∀ r n, r.size ≤ t.size + 1 → DamagePost W0 c len B i s t.size (.returned (.string r)) (w3.drewN n)) := Lib.hid fun r n hr => ⟨r, j3, rfl, hr, by rw [if_neg h0]; exact hs3.drewN n, fun h => by
      have a1 := HP1.out h
      have b1 : j1 ≤ j2 := by
        by_cases hj : j1 < len
        · have := HP2.out hj; omega
        · exact Nat.le_of_eq (HQ2.out hj).1.symm
      have b2 : j2 ≤ j3 := by
        by_cases hj : j2 < len
        · have := p3 hj; omega
        · exact Nat.le_of_eq (q3 hj).1.symm
      omega, fun h => by
      have a1 := (HQ1.out h).1
      subst a1
      have a2 := (HQ2.out h).1
      subst a2
      exact (q3 h).1⟩
    clear hs3 ho3 p3 q3
    have hy : y = 0 ∨ y = 1 ∨ y = 2 := by omega
    rcases hy with rfl | rfl | rfl
    · go_wp2_with fail
      go_quiet (fail)
      go_wp2_with fail
      go_ret
      exact HE.out _ _ (by simp only [ByteArray.size_append, ByteArray.size_extract]; omega)
    · go_wp2_with fail
      go_quiet (fail)
      go_wp2_with fail
      go_ret
      exact HE.out _ _ (by simp only [ByteArray.size_append, ByteArray.size_extract]; omega)
    · go_wp2_with fail
      go_quiet (fail)
      go_wp2_with fail
      go_ret
      exact HE.out _ _ (by simp only [ByteArray.size_append, ByteArray.size_extract]; omega)
end Go.Proofs.YtojcdhnpdinbpaaGreatDoor
