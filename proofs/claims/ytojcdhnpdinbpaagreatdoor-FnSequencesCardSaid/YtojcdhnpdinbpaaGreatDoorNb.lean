/- Numbers in decimal, and which word is the text of a pulse, by its bytes. -/
import Derived.Test.YtojcdhnpdinbpaaGreatDoorTp
import Derived.Lib.IndexLaws
namespace Go.Proofs.YtojcdhnpdinbpaaGreatDoor
open Go.RowKit

def isD (c : UInt8) : Bool := decide (48 ≤ c.toNat) && decide (c.toNat ≤ 57)
def dval (l : List UInt8) : Nat := l.foldl (fun n c => n * 10 + (c.toNat - 48)) 0
/-- The number that is written, or -1. -/
def num (l : List UInt8) : Int := if l.length = 0 ∨ 9 < l.length ∨ (1 < l.length ∧ l.headD 0 = 48) then -1 else if l.all isD then (dval l : Int) else -1

theorem dval_snoc (l : List UInt8) (c : UInt8) : dval (l ++ [c]) = dval l * 10 + (c.toNat - 48) := by
  unfold dval
  rw [List.foldl_append]; rfl
theorem dval_ge (l : List UInt8) (n : Nat) : n ≤ l.foldl (fun n c => n * 10 + (c.toNat - 48)) n := by
  induction l generalizing n with
  | nil => exact Nat.le_refl _
  | cons c r ih =>
    rw [List.foldl_cons]
    have := ih (n * 10 + (c.toNat - 48))
    omega
theorem isD_nat {c : UInt8} (h : isD c = true) : 48 ≤ c.toNat ∧ c.toNat ≤ 57 := by
  unfold isD at h
  simpa using h
theorem isD_of {c : UInt8} (h : isD c = true) : UInt8.ofNat (48 + (c.toNat - 48)) = c := by
  have := isD_nat h
  rw [show 48 + (c.toNat - 48) = c.toNat by omega, UInt8.ofNat_toNat]
theorem dval_lt (l : List UInt8) (k : Nat) (hl : l.length ≤ k) (h : l.all isD = true) : dval l < 10 ^ k := by
  suffices ∀ n m : Nat, n < 10 ^ m → l.foldl (fun n c => n * 10 + (c.toNat - 48)) n < 10 ^ (m + l.length) by
    have h1 := this 0 0 (by decide)
    have h2 : 10 ^ (0 + l.length) ≤ 10 ^ k := Nat.pow_le_pow_right (by omega) (by omega)
    exact Nat.lt_of_lt_of_le h1 h2
  induction l generalizing k with
  | nil => intro n m hn; simpa using hn
  | cons c r ih =>
    intro n m hn
    simp only [List.all_cons, Bool.and_eq_true] at h
    have hc := isD_nat h.1
    have h1 := ih (k - 1) (by simp only [List.length_cons] at hl; omega) h.2 (n * 10 + (c.toNat - 48)) (m + 1) (by rw [Nat.pow_succ]; omega)
    rw [List.foldl_cons, List.length_cons, show m + (r.length + 1) = m + 1 + r.length by omega]
    exact h1

theorem num_dtx : ∀ k, k < 25 → num (dtx k) = (k : Int) := by decide +kernel
theorem num_inv {l : List UInt8} (h0 : 0 ≤ num l) (h1 : num l ≤ 24) : l = dtx (num l).toNat := by
  unfold num at *
  split at h0
  · omega
  next hc =>
    rw [if_neg hc] at h1 ⊢
    split at h0
    · next hd =>
      rw [if_pos hd] at h1 ⊢
      match l, hc, hd, h1 with
      | [], hc, _, _ => exact absurd (.inl rfl) hc
      | [c], _, hd, _ =>
        simp only [List.all_cons, List.all_nil, Bool.and_true] at hd
        have := isD_nat hd
        have e : dval [c] = c.toNat - 48 := by simp [dval]
        unfold dtx
        rw [e, if_pos (by omega)]
        show [c] = [UInt8.ofNat (48 + (((c.toNat - 48 : Nat) : Int)).toNat)]
        rw [Int.toNat_natCast, isD_of hd]
      | [c, d], hc, hd, h1 =>
        simp only [List.all_cons, List.all_nil, Bool.and_true, Bool.and_eq_true] at hd
        have k1 := isD_nat hd.1
        have k2 := isD_nat hd.2
        have hne : c.toNat ≠ 48 := fun e => hc (.inr (.inr ⟨by simp, by simpa using UInt8.toNat_inj.1 e⟩))
        have e : dval [c, d] = (c.toNat - 48) * 10 + (d.toNat - 48) := by simp [dval]
        unfold dtx
        rw [e, Int.toNat_natCast, if_neg (by omega), show ((c.toNat - 48) * 10 + (d.toNat - 48)) / 10 = c.toNat - 48 by omega, show ((c.toNat - 48) * 10 + (d.toNat - 48)) % 10 = d.toNat - 48 by omega, isD_of hd.1, isD_of hd.2]
      | c :: d :: e :: r, hc, hd, h1 =>
        simp only [List.all_cons, Bool.and_eq_true] at hd
        have k1 := isD_nat hd.1
        have hne : c.toNat ≠ 48 := fun e => hc (.inr (.inr ⟨by simp, by simpa using UInt8.toNat_inj.1 e⟩))
        have hv : dval (c :: d :: e :: r) = r.foldl (fun n c => n * 10 + (c.toNat - 48)) (((c.toNat - 48) * 10 + (d.toNat - 48)) * 10 + (e.toNat - 48)) := by simp [dval]
        have hg := dval_ge r (((c.toNat - 48) * 10 + (d.toNat - 48)) * 10 + (e.toNat - 48))
        rw [hv] at h1
        omega
    · next hd => omega

theorem lett_toNat : ∀ a, a < 3 → (UInt8.ofNat (120 + a)).toNat = 120 + a := by decide +kernel
theorem lett_ne : ∀ a, a < 3 → UInt8.ofNat (120 + a) ≠ 45 := by decide +kernel

theorem okP_nat {p : Pu} (h : okP p = true) : p.ax.toNat < 3 ∧ p.ha.toNat < 25 ∧ p.ax = (p.ax.toNat : Int) ∧ p.ha = (p.ha.toNat : Int) := by
  unfold okP at h
  simp only [Bool.and_eq_true, decide_eq_true_eq] at h
  omega

/-- The word with or without the sign ahead. -/
def wsgn (bk : Bool) (r : List UInt8) : List UInt8 := (if bk then [45] else []) ++ r

/-- A word that is a pulse's text, by its bytes. -/
theorem pread_form {bk : Bool} {r : List UInt8} (hb : bk = false → ∀ d, r ≠ 45 :: d) {q : Pu} (h : pread (wsgn bk r) = some q) : okP q = true ∧ q.bk = bk ∧ r = UInt8.ofNat (120 + q.ax.toNat) :: dtx q.ha.toNat := by
  obtain ⟨hq, hl⟩ := pread_some h
  have hn := okP_nat hq
  have hne := lett_ne _ hn.1
  refine ⟨hq, ?_⟩
  unfold wsgn ptext at hl
  cases hqb : q.bk <;> rw [hqb] at hl <;> cases bk <;> simp only [Bool.false_eq_true, if_false, if_true, List.nil_append, List.singleton_append] at hl
  · exact ⟨rfl, hl⟩
  · injection hl with h1 h2; exact absurd h1.symm hne
  · exact absurd hl (hb rfl _)
  · injection hl with h1 h2; exact ⟨rfl, h2⟩

/-- What the specification reads. -/
def srd (bk : Bool) : List UInt8 → Option Pu
  | [] => none
  | c :: d => if 120 ≤ c.toNat ∧ c.toNat ≤ 122 ∧ 0 ≤ num d ∧ num d ≤ 24 then some ⟨(c.toNat : Int) - 120, num d, bk⟩ else none

theorem srd_cons (bk : Bool) (c : UInt8) (d : List UInt8) : srd bk (c :: d) = if 120 ≤ c.toNat ∧ c.toNat ≤ 122 ∧ 0 ≤ num d ∧ num d ≤ 24 then some ⟨(c.toNat : Int) - 120, num d, bk⟩ else none := rfl

theorem pread_srd {bk : Bool} {r : List UInt8} (hb : bk = false → ∀ d, r ≠ 45 :: d) : pread (wsgn bk r) = srd bk r := by
  cases hp : pread (wsgn bk r) with
  | some q =>
    obtain ⟨hq, h1, rfl⟩ := pread_form hb hp
    obtain ⟨n0, n1, n2, n3⟩ := okP_nat hq
    have hc := lett_toNat _ n0
    have hd := num_dtx _ n1
    rw [srd_cons, hc, hd, if_pos (by omega), ← h1]
    congr 1
    obtain ⟨x, y, z⟩ := q
    simp only at *
    congr 1 <;> omega
  | none =>
    cases r with
    | nil => rfl
    | cons c d =>
      rw [srd_cons]
      split
      · next h =>
        obtain ⟨h0, h1, h2, h3⟩ := h
        exfalso
        refine pread_none hp ⟨(c.toNat : Int) - 120, num d, bk⟩ ?_ ?_
        · unfold okP
          simp only [Bool.and_eq_true, decide_eq_true_eq]
          omega
        · unfold wsgn ptext
          simp only
          rw [show 120 + ((c.toNat : Int) - 120).toNat = c.toNat by omega, UInt8.ofNat_toNat, ← num_inv h2 h3]
      · rfl

/-- What the program reads: where the library reads a number. -/
theorem parse_dtx : ∀ k, k < 25 → Lib.parseIntB 64 (dtx k) = .ok (k : Int) := by decide +kernel
theorem index_lett : ∀ a, a < 3 → Lib.indexByte [120, 121, 122] (UInt8.ofNat (120 + a)) = (a : Int) := by decide +kernel

theorem pread_prog {bk : Bool} {c : UInt8} {d : List UInt8} (hb : bk = false → ∀ e, c :: d ≠ 45 :: e) {v : Int} (hv : Lib.parseIntB 64 d = .ok v) (p : Pu) (hp : p = ⟨Lib.indexByte [120, 121, 122] c, v, bk⟩) : pread (wsgn bk (c :: d)) = if okP p = true ∧ ptext p = wsgn bk (c :: d) then some p else none := by
  split
  · next h => rw [← h.2, pread_text h.1]
  · next h =>
    cases hq : pread (wsgn bk (c :: d)) with
    | none => rfl
    | some q =>
      exfalso
      obtain ⟨hok, hqb, he⟩ := pread_form hb hq
      obtain ⟨n0, n1, n2, n3⟩ := okP_nat hok
      injection he with e1 e2
      have : p = q := by
        obtain ⟨x, y, z⟩ := q
        rw [hp, e1, index_lett _ n0, ← n2, ← hqb]
        rw [e2, parse_dtx _ n1] at hv
        injection hv with hv
        rw [← hv, ← n3]
      subst this
      exact h ⟨hok, (pread_some hq).2.symm⟩

theorem pread_fail {bk : Bool} {c : UInt8} {d : List UInt8} (hb : bk = false → ∀ e, c :: d ≠ 45 :: e) (hv : ∀ v, Lib.parseIntB 64 d ≠ .ok v) : pread (wsgn bk (c :: d)) = none := by
  cases hq : pread (wsgn bk (c :: d)) with
  | none => rfl
  | some q =>
    exfalso
    obtain ⟨hok, hqb, he⟩ := pread_form hb hq
    obtain ⟨n0, n1, n2, n3⟩ := okP_nat hok
    injection he with e1 e2
    exact hv _ (by rw [e2, parse_dtx _ n1])
end Go.Proofs.YtojcdhnpdinbpaaGreatDoor
