/- Texts of pulses and of lists of pulses; words between blanks; which word is the text of a pulse. -/
import Derived.Test.YtojcdhnpdinbpaaGreatDoorP3
import Derived.Lib.ItoaNum
import Derived.Lib.Join
import Derived.Lib.SplitLaws
import Derived.Lib.ParseIntB
namespace Go.Proofs.YtojcdhnpdinbpaaGreatDoor
open Go.RowKit

/-- A number below 100 in decimal. -/
def dtx (k : Nat) : List UInt8 := if k < 10 then [UInt8.ofNat (48 + k)] else [UInt8.ofNat (48 + k / 10), UInt8.ofNat (48 + k % 10)]
theorem dtx_dec {k : Nat} (h : k < 100) : Lib.decDigits k = dtx k := by
  unfold dtx
  split
  · next h1 => exact Lib.decDigits_one h1
  · next h1 => exact Lib.decDigits_two h1 h

/-- The text of a pulse; of a list of pulses. -/
def ptext (p : Pu) : List UInt8 := (if p.bk then [45] else []) ++ (UInt8.ofNat (120 + p.ax.toNat) :: dtx p.ha.toNat)
def tx (P : Nat → Pu) : Nat → List UInt8
  | 0 => []
  | n + 1 => tx P n ++ ((if n = 0 then [] else [32]) ++ ptext (P n))

theorem tx_join (P : Nat → Pu) (n : Nat) : Lib.join ((List.range n).map fun i => ptext (P i)) [32] = tx P n := by
  cases n with
  | zero => rfl
  | succ n =>
    rw [List.range_succ_eq_map, List.map_cons, Lib.join_cons]
    induction n with
    | zero => simp [tx, Lib.joinTail]
    | succ n ih =>
      have e : Lib.joinTail [32] (List.map (fun i => ptext (P i)) (List.map Nat.succ (List.range (n + 1)))) = Lib.joinTail [32] (List.map (fun i => ptext (P i)) (List.map Nat.succ (List.range n))) ++ ([32] ++ ptext (P (n + 1))) := by
        rw [List.range_succ]
        simp [Lib.joinTail]
      rw [e, ← List.append_assoc, ih]
      show _ = tx P (n + 1) ++ ((if n + 1 = 0 then [] else [32]) ++ ptext (P (n + 1)))
      rw [if_neg (by omega)]

/-- All pulses of sequences. -/
def cands : List Pu := (List.range 150).map fun i => ⟨((i % 3 : Nat) : Int), ((i / 6 : Nat) : Int), decide (i / 3 % 2 = 1)⟩
theorem cands_mem {p : Pu} (h : okP p = true) : p ∈ cands := by
  unfold okP at h
  simp only [Bool.and_eq_true, decide_eq_true_eq] at h
  obtain ⟨⟨h0, h1⟩, h2, h3⟩ := h
  obtain ⟨x, y, z⟩ := p
  obtain ⟨a, rfl⟩ := Int.eq_ofNat_of_zero_le h0
  obtain ⟨b, rfl⟩ := Int.eq_ofNat_of_zero_le h2
  unfold cands
  rw [List.mem_map]
  refine ⟨a + 3 * (if z then 1 else 0) + 6 * b, List.mem_range.2 ?_, ?_⟩
  · simp only at h1 h3; split <;> omega
  · simp only at h1 h3
    have ha : a ≤ 2 := by omega
    cases z
    · simp only [Bool.false_eq_true, if_false]
      have e1 : (a + 3 * 0 + 6 * b) % 3 = a := by omega
      have e2 : (a + 3 * 0 + 6 * b) / 6 = b := by omega
      have e3 : ¬ (a + 3 * 0 + 6 * b) / 3 % 2 = 1 := by omega
      rw [e1, e2, decide_eq_false e3]
    · simp only [if_true]
      have e1 : (a + 3 * 1 + 6 * b) % 3 = a := by omega
      have e2 : (a + 3 * 1 + 6 * b) / 6 = b := by omega
      have e3 : (a + 3 * 1 + 6 * b) / 3 % 2 = 1 := by omega
      rw [e1, e2, decide_eq_true e3]
theorem cands_ok : ∀ p ∈ cands, okP p = true := by decide +kernel

/-- The pulse with a text. -/
def pread (l : List UInt8) : Option Pu := cands.find? fun p => decide (ptext p = l)
theorem pread_some {l : List UInt8} {p : Pu} (h : pread l = some p) : okP p = true ∧ l = ptext p := by
  unfold pread at h
  have h1 := List.find?_some h
  exact ⟨cands_ok p (List.mem_of_find?_eq_some h), (of_decide_eq_true h1).symm⟩
theorem pread_all : ∀ p ∈ cands, pread (ptext p) = some p := by decide +kernel
theorem pread_text {p : Pu} (h : okP p = true) : pread (ptext p) = some p := pread_all p (cands_mem h)
theorem pread_none {l : List UInt8} (h : pread l = none) (p : Pu) (hp : okP p = true) : l ≠ ptext p := by
  rintro rfl
  rw [pread_text hp] at h
  cases h

/-- The words of a text. -/
def wds : List UInt8 → List UInt8 → List (List UInt8)
  | cur, [] => [cur]
  | cur, c :: r => if c = 32 then cur :: wds [] r else wds (cur ++ [c]) r
theorem wds_no (cur l : List UInt8) (h : (32 : UInt8) ∉ l) : wds cur l = [cur ++ l] := by
  induction l generalizing cur with
  | nil => simp [wds]
  | cons c r ih =>
    have hc : c ≠ 32 := fun e => h (by rw [e]; exact List.mem_cons_self)
    unfold wds
    rw [if_neg hc, ih _ (fun hm => h (List.mem_cons_of_mem _ hm))]
    simp
theorem wds_at (cur a b : List UInt8) : wds cur (a ++ 32 :: b) = wds cur a ++ wds [] b := by
  induction a generalizing cur with
  | nil => simp [wds]
  | cons c r ih =>
    rw [List.cons_append]
    by_cases hc : c = 32
    · subst hc
      rw [show wds cur ((32 : UInt8) :: (r ++ 32 :: b)) = cur :: wds [] (r ++ 32 :: b) from by simp [wds], ih, show wds cur ((32 : UInt8) :: r) = cur :: wds [] r from by simp [wds], List.cons_append]
    · rw [show wds cur (c :: (r ++ 32 :: b)) = (if c = 32 then cur :: wds [] (r ++ 32 :: b) else wds (cur ++ [c]) (r ++ 32 :: b)) from rfl, if_neg hc, ih]
      rw [show wds cur (c :: r) = (if c = 32 then cur :: wds [] r else wds (cur ++ [c]) r) from rfl, if_neg hc]
theorem wds_pos (cur l : List UInt8) : 1 ≤ (wds cur l).length := by
  induction l generalizing cur with
  | nil => simp [wds]
  | cons c r ih =>
    unfold wds
    split
    · simp
    · exact ih _
theorem wds_len (cur l : List UInt8) : (wds cur l).length ≤ l.length + 1 := by
  induction l generalizing cur with
  | nil => simp [wds]
  | cons c r ih =>
    unfold wds
    split
    · have := ih []; simp only [List.length_cons]; omega
    · have := ih (cur ++ [c]); simp only [List.length_cons]; omega
theorem wds_size (cur l w : List UInt8) (h : w ∈ wds cur l) : w.length ≤ cur.length + l.length := by
  induction l generalizing cur with
  | nil => simp only [wds, List.mem_singleton] at h; subst h; simp
  | cons c r ih =>
    unfold wds at h
    split at h
    · rcases List.mem_cons.1 h with h | h
      · subst h; simp
      · have := ih [] h; simp only [List.length_nil, List.length_cons] at *; omega
    · have := ih _ h; simp only [List.length_append, List.length_cons, List.length_nil] at *; omega

theorem text_blank : ∀ p ∈ cands, (32 : UInt8) ∉ ptext p := by decide +kernel
theorem text_full : ∀ p ∈ cands, ptext p ≠ [] := by decide +kernel

/-- The words of a list's text are the texts of its pulses. -/
theorem wds_tx {P : Nat → Pu} (n : Nat) (h : ∀ i, i < n + 1 → okP (P i) = true) : wds [] (tx P (n + 1)) = (List.range (n + 1)).map fun i => ptext (P i) := by
  induction n with
  | zero =>
    have h0 := text_blank _ (cands_mem (h 0 (by omega)))
    show wds [] ([] ++ ([] ++ ptext (P 0))) = [ptext (P 0)]
    rw [List.nil_append, List.nil_append, wds_no _ _ h0, List.nil_append]
  | succ n ih =>
    have h0 := text_blank _ (cands_mem (h (n + 1) (by omega)))
    rw [show tx P (n + 1 + 1) = tx P (n + 1) ++ ((if n + 1 = 0 then [] else [32]) ++ ptext (P (n + 1))) from rfl, if_neg (by omega), List.singleton_append, wds_at, ih (fun i hi => h i (by omega)), wds_no _ _ h0, List.nil_append, List.range_succ (n := n + 1), List.map_append]
    rfl
theorem tx_full {P : Nat → Pu} (n : Nat) (h : okP (P n) = true) : tx P (n + 1) ≠ [] := by
  have h0 := text_full _ (cands_mem h)
  rw [show tx P (n + 1) = tx P n ++ ((if n = 0 then [] else [32]) ++ ptext (P n)) from rfl]
  intro e
  exact h0 (List.append_eq_nil_iff.1 (List.append_eq_nil_iff.1 e).2).2
theorem tx_congr {P Q : Nat → Pu} (n : Nat) (h : ∀ i, i < n → P i = Q i) : tx P n = tx Q n := by
  induction n with
  | zero => rfl
  | succ n ih =>
    rw [show tx P (n + 1) = tx P n ++ ((if n = 0 then [] else [32]) ++ ptext (P n)) from rfl, show tx Q (n + 1) = tx Q n ++ ((if n = 0 then [] else [32]) ++ ptext (Q n)) from rfl, ih (fun i hi => h i (by omega)), h n (by omega)]

/-- What a text is read as: how many pulses, which, and the code. -/
def PW (l : List UInt8) (j : Nat) : Pu := (pread ((wds [] l).getD j [])).getD noPu
def wordsB (l : List UInt8) : Bool := (wds [] l).all (fun w => (pread w).isSome) && decide ((wds [] l).length ≤ 60)
def goodB (l : List UInt8) : Bool := decide (l = []) || wordsB l
def nRead (l : List UInt8) : Nat := if l = [] then 0 else if wordsB l then (wds [] l).length else 0
def cRead (l : List UInt8) : Int := if goodB l then 0 else 6

theorem word_bad {l : List UInt8} {j : Nat} (hj : j < (wds [] l).length) (h : pread ((wds [] l).getD j []) = none) : wordsB l = false := by
  unfold wordsB
  have : (wds [] l).all (fun w => (pread w).isSome) = false := by
    rw [List.all_eq_false]
    refine ⟨(wds [] l)[j], List.getElem_mem hj, ?_⟩
    rw [List.getD_eq_getElem?_getD, List.getElem?_eq_getElem hj] at h
    simp only [Option.getD_some] at h
    rw [h]; simp
  rw [this, Bool.false_and]
theorem words_many {l : List UInt8} (h : 60 < (wds [] l).length) : wordsB l = false := by
  unfold wordsB
  rw [decide_eq_false (show ¬ (wds [] l).length ≤ 60 by omega), Bool.and_false]
theorem words_good {l : List UInt8} (h : ∀ j, j < (wds [] l).length → pread ((wds [] l).getD j []) ≠ none) (h60 : (wds [] l).length ≤ 60) : wordsB l = true := by
  unfold wordsB
  have : (wds [] l).all (fun w => (pread w).isSome) = true := by
    rw [List.all_eq_true]
    intro w hw
    obtain ⟨j, hj, rfl⟩ := List.getElem_of_mem hw
    have := h j hj
    rw [List.getD_eq_getElem?_getD, List.getElem?_eq_getElem hj] at this
    simp only [Option.getD_some] at this
    exact Option.isSome_iff_ne_none.2 this
  rw [this, decide_eq_true h60]; rfl
theorem nRead_small (l : List UInt8) : nRead l ≤ 60 := by
  unfold nRead
  split
  · omega
  · split
    · next h =>
      unfold wordsB at h
      simp only [Bool.and_eq_true, decide_eq_true_eq] at h
      exact h.2
    · omega
end Go.Proofs.YtojcdhnpdinbpaaGreatDoor
