/- Walks: echoes, as the program has them. -/
import Derived.Test.YtojcdhnpdinbpaaGreatDoorCc
namespace Go.Proofs.YtojcdhnpdinbpaaGreatDoor
open Go.RowKit

theorem half_get {n : Nat} (P : Nat → Pu) {i : Nat} (hi : i < n + 1) : ((List.range n).map P ++ (List.range 1).map (fun _ => noPu)).getD i noPu = (if i = n then noPu else P i) := by
  simp only [List.getD, List.getElem?_append, List.length_map, List.length_range]
  by_cases h : i = n
  · subst h; simp
  · rw [if_neg h, if_pos (by omega)]
    simp [show i < n by omega]

theorem twice_get {n : Nat} (P : Nat → Pu) {i : Nat} (hi : i < (n + 1) + (n + 1)) : ((List.range (n + 1)).map (fun i => if i = n then noPu else P i) ++ (List.range (n + 1)).map (fun i => if i = n then noPu else P i)).getD i noPu = echoP n P i := by
  unfold echoP
  simp only [List.getD, List.getElem?_append, List.length_map, List.length_range]
  by_cases h : i < n + 1
  · rw [if_pos h, Nat.mod_eq_of_lt h]
    simp [h]
  · have hm : i % (n + 1) = i - (n + 1) := by rw [Nat.mod_eq_sub_mod (by omega), Nat.mod_eq_of_lt (by omega)]
    rw [if_neg h, hm]
    simp [show i - (n + 1) < n + 1 by omega]

theorem own_same {w : World} {v : Value} {m m' lo hi : Nat} {P : Nat → Pu} (h : Own w v m P lo hi) (e : m = m') : Own w v m' P lo hi := by
  subst e; exact h

set_option maxRecDepth 100000 in
set_option maxHeartbeats 2000000 in
theorem implEcho_seq {n : Nat} {P : Nat → Pu} (hn : n ≤ 1048574) (hs : seqB n P = true) (m : Nat) (F : Nat → Pu) (code : Int) (hc : (n ≤ 29 ∧ m = 2 * n + 2 ∧ F = echoP n P ∧ code = 0) ∨ (29 < n ∧ m = 0 ∧ code = 3)) : Gives 19 n P m F code := by
  intro w b off cap h
  have HI := Lib.hid (implIs_ok h (by omega))
  rw [hs] at HI
  have H := Lib.hid h
  have HC := Lib.hid hc
  have hn0 : (0 : Int) ≤ (n : Int) := by omega
  have hn1 : (n : Int) ≤ 1048574 := by omega
  clear h hc
  go_enter Tryz.func19, Tryz.ntmps19
  go_wp2_with fail
  refine HI.out.mono ?_
  rintro e w0 ⟨rfl, hb0⟩
  have HB0 := Lib.hid hb0
  have H0 := Lib.hid (rd_below H.out hb0)
  clear hb0
  go_wp2_with fail
  refine (concat_ok (P := P) (Q := fun _ => noPu) (n := n) (m := 1) (S := w0.heap.size + 1) (b := b) (off := off) (cap := cap) (b' := w0.heap.size) (off' := 0) (cap' := 1) (rd_below H0.out (((Below.refl _ _).alloc (Nat.le_refl _) _).alloc (by simp) _)) ⟨_, 1, rfl, fun _ => ⟨w0.heap.size, 0, rfl, by simp; omega, fun i hi => ?_⟩⟩ (by simp [go_sem]) (by simp [go_sem]) (by omega) (by omega) (by omega)).mono ?_
  · obtain rfl : i = 0 := by omega
    simp [go_sem, noPu]
  rintro e w1 ⟨v1, rfl, ho1, hb1⟩
  have hbw : Below w0.heap.size w0 w1 := (((Below.refl w0.heap.size w0).alloc (Nat.le_refl _) _).alloc (by simp) _).trans (hb1.mono (by simp; omega))
  have HB1 := Lib.hid (HB0.out.trans (hbw.mono HB0.out.size))
  obtain ⟨g, cap2, rfl, hg1, hg2⟩ := ho1.form (by omega)
  have HR1 := Lib.hid (own_rd (own_congr (owns_own ho1 (by simp)) (Q := fun i => if i = n then noPu else P i) (fun i hi => half_get P hi)))
  clear ho1 hb1 hbw hg1
  rcases HC.out with ⟨h29, rfl, rfl, rfl⟩ | ⟨h29, rfl, rfl⟩
  · have h29' : ¬ (60 : Int) < 2 * ((n : Int) + 1) := by omega
    go_wp2_with fail
    refine (concat_ok (P := fun i => if i = n then noPu else P i) (Q := fun i => if i = n then noPu else P i) (n := n + 1) (m := n + 1) (S := w1.heap.size) (b := g) (off := 0) (cap := cap2) (b' := g) (off' := 0) (cap' := cap2) (rd_below HR1.out ((Below.refl _ _).alloc (Nat.le_refl _) _)) (rd_below HR1.out ((Below.refl _ _).alloc (Nat.le_refl _) _)) (by simp [go_sem]) (by simp [go_sem]) (by omega) (by omega) (by omega)).mono ?_
    rintro e w2 ⟨v2, rfl, ho2, hb2⟩
    have hbw : Below w1.heap.size w1 w2 := ((Below.refl w1.heap.size w1).alloc (Nat.le_refl _) _).trans (hb2.mono (by simp))
    have HB2 := Lib.hid (HB1.out.trans (hbw.mono HB1.out.size))
    have HO2 := Lib.hid (own_wide (lo' := w.heap.size) (own_same (own_congr (owns_own ho2 (by simp)) (Q := echoP n P) (fun i hi => twice_get P hi)) (show n + 1 + (n + 1) = 2 * n + 2 by omega)) (by have := HB1.out.size; simp; omega))
    clear ho2 hb2 hbw
    go_wp2_with fail
    go_ret2
    exact ⟨_, rfl, HB2.out, HO2.out⟩
  · have h29' : (60 : Int) < 2 * ((n : Int) + 1) := by omega
    go_wp2_with fail
    go_ret2
    exact ⟨_, rfl, HB1.out, ⟨none, 0, rfl, Nat.le_refl _, fun h0 => absurd h0 (Nat.lt_irrefl _)⟩⟩

theorem implEcho_no {n : Nat} {P : Nat → Pu} (hn : n ≤ 1048576) (hs : seqB n P = false) : Gives 19 n P 0 (fun _ => noPu) 1 := by
  intro w b off cap h
  have HI := Lib.hid (implIs_ok h hn)
  rw [hs] at HI
  clear h
  go_enter Tryz.func19, Tryz.ntmps19
  go_wp2_with fail
  refine HI.out.mono ?_
  rintro e w' ⟨rfl, hb⟩
  have HB := Lib.hid hb
  clear hb
  go_wp2_with fail
  go_ret2
  exact ⟨_, rfl, HB.out, ⟨none, 0, rfl, Nat.le_refl _, fun h0 => absurd h0 (Nat.lt_irrefl _)⟩⟩

theorem seqB_few {n : Nat} {P : Nat → Pu} (hs : seqB n P = true) : n ≤ 60 := by
  unfold seqB at hs
  simp only [Bool.and_eq_true, decide_eq_true_eq] at hs
  exact hs.2

/-- The echo: how many, which, and the code. -/
theorem implEcho {n : Nat} {P : Nat → Pu} (hn : n ≤ 1048576) : Gives 19 n P (if seqB n P ∧ n ≤ 29 then 2 * n + 2 else 0) (if seqB n P ∧ n ≤ 29 then echoP n P else fun _ => noPu) (if seqB n P then (if n ≤ 29 then 0 else 3) else 1) := by
  cases hs : seqB n P
  · simpa using implEcho_no hn hs
  · have := seqB_few hs
    by_cases h29 : n ≤ 29
    · simpa [h29] using implEcho_seq (by omega) hs _ _ _ (.inl ⟨h29, rfl, rfl, rfl⟩)
    · simpa [h29] using implEcho_seq (by omega) hs 0 (fun _ => noPu) 3 (.inr ⟨by omega, rfl, rfl⟩)
end Go.Proofs.YtojcdhnpdinbpaaGreatDoor
