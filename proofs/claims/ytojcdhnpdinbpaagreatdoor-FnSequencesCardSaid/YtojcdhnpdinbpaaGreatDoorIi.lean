/- Walks: IsSequence of the program. -/
import Derived.Test.YtojcdhnpdinbpaaGreatDoorP3
namespace Go.Proofs.YtojcdhnpdinbpaaGreatDoor
open Go.RowKit

theorem isPulse_any (p : Pu) (w : World) :
    Calls Tryz.prog 33 #[p.v] w fun e w' => e = .returned (.bool (okP p)) ∧ Below w.heap.size w w' := by
  have hok : okP p = (decide (0 ≤ p.ax ∧ p.ax ≤ 2) && decide (0 ≤ p.ha ∧ p.ha ≤ 24)) := rfl
  obtain ⟨x, y, z⟩ := p
  unfold Pu.v
  rw [hok]
  clear hok
  simp only
  by_cases h1 : 0 ≤ x
  · by_cases h2 : x < 3
    · by_cases h3 : 0 ≤ y
      · by_cases h4 : y ≤ 24
        · rw [decide_eq_true (show 0 ≤ x ∧ x ≤ 2 by omega), decide_eq_true (show 0 ≤ y ∧ y ≤ 24 by omega)]
          go_enter Tryz.func33, Tryz.ntmps33
          go_wp2_with fail
          go_ret
          exact ⟨rfl, (Below.refl _ _).alloc (Nat.le_refl _) _⟩
        · rw [decide_eq_true (show 0 ≤ x ∧ x ≤ 2 by omega), decide_eq_false (show ¬ (0 ≤ y ∧ y ≤ 24) by omega)]
          have h4' : decide (y ≤ 24) = false := decide_eq_false h4
          clear h4
          go_enter Tryz.func33, Tryz.ntmps33
          go_wp2_with fail
          go_ret
          exact ⟨rfl, (Below.refl _ _).alloc (Nat.le_refl _) _⟩
      · rw [decide_eq_true (show 0 ≤ x ∧ x ≤ 2 by omega), decide_eq_false (show ¬ (0 ≤ y ∧ y ≤ 24) by omega)]
        have h3' : decide (0 ≤ y) = false := decide_eq_false h3
        clear h3
        go_enter Tryz.func33, Tryz.ntmps33
        go_wp2_with fail
        go_ret
        exact ⟨rfl, (Below.refl _ _).alloc (Nat.le_refl _) _⟩
    · rw [decide_eq_false (show ¬ (0 ≤ x ∧ x ≤ 2) by omega)]
      have h2' : decide (x < 3) = false := decide_eq_false h2
      clear h2
      simp only [Bool.false_and]
      go_enter Tryz.func33, Tryz.ntmps33
      go_wp2_with fail
      go_ret
      exact ⟨rfl, (Below.refl _ _).alloc (Nat.le_refl _) _⟩
  · rw [decide_eq_false (show ¬ (0 ≤ x ∧ x ≤ 2) by omega)]
    have h1' : decide (0 ≤ x) = false := decide_eq_false h1
    clear h1
    simp only [Bool.false_and]
    go_enter Tryz.func33, Tryz.ntmps33
    go_wp2_with fail
    go_ret
    exact ⟨rfl, (Below.refl _ _).alloc (Nat.le_refl _) _⟩

theorem seqB_long {n : Nat} {P : Nat → Pu} (h : ¬ n ≤ 60) : seqB n P = false := by
  unfold seqB
  rw [decide_eq_false h, Bool.and_false]

set_option maxRecDepth 100000 in
set_option maxHeartbeats 1000000 in
theorem implIs_ok {w : World} {v : Value} {n : Nat} {P : Nat → Pu} (h : Rd w v n P) (hn : n ≤ 1048576) :
    Calls Tryz.prog 8 #[v] w fun e w' => e = .returned (.bool (seqB n P)) ∧ Below w.heap.size w w' := by
  have HI := Lib.hid (fun p w => isPulse_any p w)
  obtain ⟨a, cap, rfl, h⟩ := h
  by_cases h60 : n ≤ 60
  · have h60' : (n : Int) ≤ 60 := by omega
    go_enter Tryz.func8, Tryz.ntmps8
    go_wp2_with fail
    go_loopw [10] (fun i wr => ∃ k : Nat, i = .int .i64 k ∧ k ≤ n ∧ Below w.heap.size w wr ∧ ∀ j, j < k → okP (P j) = true) (fun i _ => n - (intOf i).toNat)
    case atStart => exact ⟨0, rfl, Nat.zero_le _, Below.refl _ _, fun j hj => absurd hj (Nat.not_lt_zero _)⟩
    case round =>
      obtain ⟨k, rfl, hk, hb, hall⟩ := hrel
      by_cases hlt : k < n
      · obtain ⟨b, off, rfl, hl, hc⟩ := h (by omega)
        obtain ⟨c0, c1, c2⟩ := hc k hlt
        rw [← hb.cell (p := ⟨b, _, none⟩) hl] at c0 c1 c2
        have hl2 : b < wr.heap.size := Nat.lt_of_lt_of_le hl hb.size
        have hlt' : (k : Int) < (n : Int) := by omega
        have h1 := HI.out (P k)
        have HO := Lib.hid (fun g => seqB_no (P := P) hlt g)
        have HN := Lib.hid (show okP (P k) = true → ∀ j, j < k + 1 → okP (P j) = true by
          intro g j hj
          rcases Nat.lt_or_ge j k with hj2 | hj2
          · exact hall j hj2
          · have : j = k := by omega
            subst this; exact g)
        have HB := Lib.hid hb
        unfold Pu.v at h1
        have H1 := Lib.hid h1
        clear h hc hall HI hb h1
        generalize okP (P k) = x at *
        cases x
        · go_wp2_with fail
          refine (H1.out _).mono ?_
          rintro e w' ⟨rfl, hb2⟩
          have HB2 := Lib.hid (HB.out.trans (Below.mono ((Below.alloc (Below.refl wr.heap.size wr) (Nat.le_refl _) _).trans (hb2.mono (by simp))) HB.out.size))
          clear hb2
          go_wp2_with fail
          go_ret
          exact ⟨by rw [HO.out trivial]; rfl, HB2.out⟩
        · go_wp2_with fail
          refine (H1.out _).mono ?_
          rintro e w' ⟨rfl, hb2⟩
          have HB2 := Lib.hid (HB.out.trans (Below.mono ((Below.alloc (Below.refl wr.heap.size wr) (Nat.le_refl _) _).trans (hb2.mono (by simp))) HB.out.size))
          clear hb2
          go_wp2_with fail
          go_roundw
          case rel => exact ⟨k + 1, by go_num, by omega, HB2.out, HN.out trivial⟩
          case measure => simp [intOf]; omega
      · have he : k = n := by omega
        subst he
        have hlt' : ¬ ((k : Int) < (k : Int)) := by omega
        have hN := Lib.hid (seqB_yes hall)
        have HB := Lib.hid hb
        clear h hall HI hb
        go_wp2_with fail
        go_ret
        exact ⟨by rw [hN.out, decide_eq_true h60]; rfl, HB.out⟩
  · have h60' : ¬ (n : Int) ≤ 60 := by omega
    have hN := Lib.hid (seqB_long (P := P) h60)
    clear h h60 HI
    go_enter Tryz.func8, Tryz.ntmps8
    go_wp2_with fail
    go_ret
    exact ⟨by rw [hN.out]; rfl, Below.refl _ _⟩
end Go.Proofs.YtojcdhnpdinbpaaGreatDoor
