/- Walks: which lists are sequences, as the specification says. -/
import Derived.Test.YtojcdhnpdinbpaaGreatDoorP2
import Derived.Test.YtojcdhnpdinbpaaGreatDoorIn
namespace Go.Proofs.YtojcdhnpdinbpaaGreatDoor
open Go.RowKit

/-- A pulse of a sequence; a sequence. -/
def okP (p : Pu) : Bool := decide (0 ≤ p.ax ∧ p.ax ≤ 2) && decide (0 ≤ p.ha ∧ p.ha ≤ 24)
def seqB (n : Nat) (P : Nat → Pu) : Bool := (List.range n).all (fun i => okP (P i)) && decide (n ≤ 60)

theorem seqB_no {n i : Nat} {P : Nat → Pu} (hi : i < n) (h : okP (P i) = false) : seqB n P = false := by
  unfold seqB
  have : (List.range n).all (fun i => okP (P i)) = false := by
    rw [List.all_eq_false]
    exact ⟨i, List.mem_range.2 hi, by rw [h]; simp⟩
  rw [this]; rfl

theorem seqB_yes {n : Nat} {P : Nat → Pu} (h : ∀ i, i < n → okP (P i) = true) : seqB n P = decide (n ≤ 60) := by
  unfold seqB
  have : (List.range n).all (fun i => okP (P i)) = true := by
    rw [List.all_eq_true]
    intro i hi
    exact h i (List.mem_range.1 hi)
  rw [this]; rfl

set_option maxRecDepth 100000 in
set_option maxHeartbeats 1000000 in
theorem l05Is_ok {w : World} {v : Value} {n : Nat} {P : Nat → Pu} (h : Rd w v n P) (hn : n ≤ 1048576) :
    Calls Tryz.prog 31 #[v] w fun e w' => e = .returned (.bool (seqB n P)) ∧ w = w' := by
  have HI := Lib.hid (fun x lo hi w => in_any x lo hi w)
  obtain ⟨a, cap, rfl, h⟩ := h
  go_enter Tryz.func31, Tryz.ntmps31
  go_wp2_with fail
  go_loopw [3] (fun i wr => ∃ k : Nat, i = .int .i64 k ∧ k ≤ n ∧ w = wr ∧ ∀ j, j < k → okP (P j) = true) (fun i _ => n - (intOf i).toNat)
  case atStart => exact ⟨0, rfl, Nat.zero_le _, rfl, fun j hj => absurd hj (Nat.not_lt_zero _)⟩
  case round =>
    obtain ⟨k, rfl, hk, rfl, hall⟩ := hrel
    by_cases hlt : k < n
    · obtain ⟨b, off, rfl, hl, hc⟩ := h (by omega)
      obtain ⟨c0, c1, c2⟩ := hc k hlt
      have hlt' : (k : Int) < (n : Int) := by omega
      have h1 := Lib.hid (HI.out (P k).ax 0 2)
      have h2 := Lib.hid (HI.out (P k).ha 0 24)
      have hno : okP (P k) = false → seqB n P = false := fun g => seqB_no hlt g
      unfold okP at hno
      have hnext : okP (P k) = true → ∀ j, j < k + 1 → okP (P j) = true := by
        intro g j hj
        rcases Nat.lt_or_ge j k with hj2 | hj2
        · exact hall j hj2
        · have : j = k := by omega
          subst this; exact g
      unfold okP at hnext
      generalize decide (0 ≤ (P k).ax ∧ (P k).ax ≤ 2) = x at *
      generalize decide (0 ≤ (P k).ha ∧ (P k).ha ≤ 24) = y at *
      clear h hc hall HI
      cases x
      · have hN := Lib.hid (hno rfl)
        clear hno hnext
        go_wp2_with fail
        refine (h1.out _).mono ?_
        rintro e w' ⟨rfl, rfl⟩
        go_wp2_with fail
        go_ret
        exact ⟨by rw [hN.out]; rfl, rfl⟩
      · cases y
        · have hN := Lib.hid (hno rfl)
          clear hno hnext
          go_wp2_with fail
          refine (h1.out _).mono ?_
          rintro e w' ⟨rfl, rfl⟩
          go_wp2_with fail
          refine (h2.out _).mono ?_
          rintro e w' ⟨rfl, rfl⟩
          go_wp2_with fail
          go_ret
          exact ⟨by rw [hN.out]; rfl, rfl⟩
        · have hn2 := Lib.hid (hnext rfl)
          clear hno hnext
          go_wp2_with fail
          refine (h1.out _).mono ?_
          rintro e w' ⟨rfl, rfl⟩
          go_wp2_with fail
          refine (h2.out _).mono ?_
          rintro e w' ⟨rfl, rfl⟩
          go_wp2_with fail
          go_roundw
          case rel => exact ⟨k + 1, by go_num, by omega, trivial, hn2.out⟩
          case measure => simp [intOf]; omega
    · have he : k = n := by omega
      subst he
      have hlt' : ¬ ((k : Int) < (k : Int)) := by omega
      have hN := Lib.hid (seqB_yes hall)
      clear h hall HI
      cases h60 : decide (k ≤ 60)
      · have h60' : ¬ ((k : Int) ≤ 60) := by have := of_decide_eq_false h60; omega
        go_wp2_with fail
        go_ret
        exact ⟨by rw [hN.out, h60]; rfl, rfl⟩
      · have h60' : (k : Int) ≤ 60 := by have := of_decide_eq_true h60; omega
        go_wp2_with fail
        go_ret
        exact ⟨by rw [hN.out, h60]; rfl, rfl⟩
end Go.Proofs.YtojcdhnpdinbpaaGreatDoor
