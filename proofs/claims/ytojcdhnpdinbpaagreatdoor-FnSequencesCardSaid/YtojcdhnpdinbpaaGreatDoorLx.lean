/- Facts of lists of pulses: texts come back, inverses of inverses, angles of inverses and of shortened lists, and what is shortened stays. -/
import Derived.Test.YtojcdhnpdinbpaaGreatDoorTp
import Derived.Test.YtojcdhnpdinbpaaGreatDoorTj
import Derived.Test.YtojcdhnpdinbpaaGreatDoorAn
import Derived.Test.YtojcdhnpdinbpaaGreatDoorSh
import Derived.Test.YtojcdhnpdinbpaaGreatDoorSv
namespace Go.Proofs.YtojcdhnpdinbpaaGreatDoor
open Go.RowKit

theorem text_back {n : Nat} {P : Nat → Pu} (hs : seqB n P = true) : cRead (tx P n) = 0 ∧ nRead (tx P n) = n ∧ ∀ i, i < n → PW (tx P n) i = P i := by
  obtain ⟨hok, h60⟩ := seqB_all hs
  cases n with
  | zero => exact ⟨rfl, rfl, fun i hi => absurd hi (by omega)⟩
  | succ n =>
    have hw := wds_tx n hok
    have hne := tx_full n (hok n (by omega))
    have hl : (wds [] (tx P (n + 1))).length = n + 1 := by rw [hw]; simp
    have hg : ∀ j, j < n + 1 → (wds [] (tx P (n + 1))).getD j [] = ptext (P j) := by
      intro j hj
      rw [hw, List.getD_eq_getElem?_getD, List.getElem?_map, List.getElem?_range hj]
      rfl
    have hgood : wordsB (tx P (n + 1)) = true := words_good (fun j hj => by rw [hg j (by omega), pread_text (hok j (by omega))]; simp) (by omega)
    refine ⟨?_, ?_, fun i hi => ?_⟩
    · unfold cRead goodB
      rw [hgood, Bool.or_true, if_pos rfl]
    · unfold nRead
      rw [if_neg hne, hgood, if_pos rfl, hl]
    · unfold PW
      rw [hg i hi, pread_text (hok i hi)]
      rfl

theorem okP_inv {p : Pu} (h : okP p = true) : okP (inv p) = true := h
theorem inv_inv (p : Pu) : inv (inv p) = p := by
  obtain ⟨a, b, c⟩ := p
  simp [inv]

theorem seqB_of {n : Nat} {P : Nat → Pu} (h : ∀ i, i < n → okP (P i) = true) (h60 : n ≤ 60) : seqB n P = true := by rw [seqB_yes h]; simp [h60]

theorem seqB_inv {n : Nat} {P : Nat → Pu} (hs : seqB n P = true) : seqB n (fun i => inv (P (n - 1 - i))) = true := by
  obtain ⟨hok, h60⟩ := seqB_all hs
  exact seqB_of (fun i hi => okP_inv (hok _ (by omega))) h60

theorem inv_twice {n i : Nat} (P : Nat → Pu) (hi : i < n) : inv ((fun i => inv (P (n - 1 - i))) (n - 1 - i)) = P i := by
  show inv (inv (P (n - 1 - (n - 1 - i)))) = P i
  rw [inv_inv, show n - 1 - (n - 1 - i) = i by omega]

/-- What a list of pulses turns about an axis. -/
def part (ax : Int) (p : Pu) : Int := if p.ax = ax then sgn p else 0
def sumL (ax : Int) : List Pu → Int
  | [] => 0
  | p :: L => part ax p + sumL ax L

theorem sumL_append (ax : Int) (A B : List Pu) : sumL ax (A ++ B) = sumL ax A + sumL ax B := by
  induction A with
  | nil => simp [sumL]
  | cons a A ih => simp only [List.cons_append, sumL, ih]; omega

theorem sumL_reverse (ax : Int) (A : List Pu) : sumL ax A.reverse = sumL ax A := by
  induction A with
  | nil => rfl
  | cons a A ih => simp only [List.reverse_cons, sumL_append, sumL, ih]; omega

theorem ang_sum (P : Nat → Pu) (ax : Int) (n : Nat) : ang P ax n = sumL ax ((List.range n).map P) := by
  induction n with
  | zero => rfl
  | succ n ih =>
    rw [List.range_succ, List.map_append, sumL_append, ← ih]
    show ang P ax n + (if (P n).ax = ax then sgn (P n) else 0) = ang P ax n + (part ax (P n) + 0)
    unfold part
    omega

theorem map_getD (L : List Pu) : (List.range L.length).map (fun i => L.getD i noPu) = L := by
  apply List.ext_getElem
  · simp
  · intro i h1 h2
    simp only [List.getElem_map, List.getElem_range]
    rw [List.getD_eq_getElem?_getD, List.getElem?_eq_getElem h2]
    rfl

theorem part_inv (ax : Int) (p : Pu) : part ax (inv p) = -part ax p := by
  unfold part inv sgn
  cases p.bk <;> simp <;> split <;> omega

theorem sumL_inv (ax : Int) (L : List Pu) : sumL ax (L.map inv) = -sumL ax L := by
  induction L with
  | nil => rfl
  | cons a L ih => simp only [List.map_cons, sumL, part_inv, ih]; omega

theorem ang_inv (P : Nat → Pu) (ax : Int) (n : Nat) : ang (fun i => inv (P (n - 1 - i))) ax n = -ang P ax n := by
  rw [ang_sum, ang_sum, ← sumL_inv, ← sumL_reverse ax (((List.range n).map P).map inv)]
  congr 1
  apply List.ext_getElem
  · simp
  · intro i h1 h2
    simp [List.getElem_reverse]

theorem part_mrg (ax : Int) {a b : Pu} (ha : okP a = true) (hr : red a b = true) : sumL ax (mrg a b) = part ax a + part ax b := by
  unfold okP at ha
  unfold red at hr
  simp only [Bool.and_eq_true, Bool.or_eq_true, decide_eq_true_eq] at ha hr
  obtain ⟨a1, a2, a3⟩ := a
  obtain ⟨b1, b2, b3⟩ := b
  simp only at ha hr
  obtain ⟨rfl, rfl, h3⟩ := hr
  obtain ⟨_, g0, g24⟩ := ha
  unfold mrg
  by_cases hb : a3 = b3
  · subst hb
    have h1 : a2 ≠ 0 := by
      rcases h3 with h | h
      · exact absurd rfl h
      · exact h
    rw [if_pos rfl]
    have e : (24 - (a2 - 1).toNat) = (24 - a2.toNat) + 1 := by omega
    have hp : (2 : Int) ^ (24 - (a2 - 1).toNat) = 2 * 2 ^ (24 - a2.toNat) := by rw [e, Int.pow_succ, Int.mul_comm]
    unfold sumL sumL part sgn
    simp only
    rw [hp]
    cases a3 <;> simp <;> split <;> omega
  · rw [if_neg hb]
    unfold sumL part sgn
    simp only
    cases a3 <;> cases b3 <;> simp at hb ⊢ <;> split <;> omega

theorem mach_sum (ax : Int) : ∀ (k : Nat) (K R : List Pu), 2 * R.length + K.length ≤ k → (∀ p ∈ K, okP p = true) → (∀ p ∈ R, okP p = true) → sumL ax (mach K R) = sumL ax K + sumL ax R := by
  intro k
  induction k with
  | zero =>
    intro K R hk _ _
    have h1 : R = [] := List.length_eq_zero_iff.mp (by omega)
    have h2 : K = [] := List.length_eq_zero_iff.mp (by omega)
    subst h1 h2
    rw [mach_nil]; rfl
  | succ k ih =>
    intro K R hk hK hR
    cases R with
    | nil => rw [mach_nil, sumL_reverse]; simp [sumL]
    | cons x R =>
      cases K with
      | nil =>
        rw [mach_first, ih [x] R (by simp only [List.length_cons, List.length_nil] at hk ⊢; omega) (fun p hp => hR p (by simp only [List.mem_singleton] at hp; subst hp; exact List.mem_cons_self)) (fun p hp => hR p (List.mem_cons_of_mem _ hp))]
        simp only [sumL]; omega
      | cons a K =>
        have hxa := hR x List.mem_cons_self
        have haa := hK a List.mem_cons_self
        by_cases hr : red a x = true
        · have hm := mrg_length a x
          rw [mach_red K R hr, ih K (mrg a x ++ R) (by simp only [List.length_cons, List.length_append] at hk ⊢; omega) (fun p hp => hK p (List.mem_cons_of_mem _ hp)) (fun p hp => by
            rcases List.mem_append.mp hp with h | h
            · exact okP_mrg haa hr p h
            · exact hR p (List.mem_cons_of_mem _ h)), sumL_append, part_mrg ax haa hr]
          simp only [sumL]; omega
        · rw [mach_keep K R (by simpa using hr), ih (x :: a :: K) R (by simp only [List.length_cons] at hk ⊢; omega) (fun p hp => by
            rcases List.mem_cons.mp hp with h | h
            · subst h; exact hxa
            · exact hK p h) (fun p hp => hR p (List.mem_cons_of_mem _ hp))]
          simp only [sumL]; omega

theorem mach_ok : ∀ (k : Nat) (K R : List Pu), 2 * R.length + K.length ≤ k → irr K = true → (∀ p ∈ K, okP p = true) → (∀ p ∈ R, okP p = true) → irr (mach K R).reverse = true ∧ ∀ p ∈ mach K R, okP p = true := by
  intro k
  induction k with
  | zero =>
    intro K R hk _ _ _
    have h1 : R = [] := List.length_eq_zero_iff.mp (by omega)
    have h2 : K = [] := List.length_eq_zero_iff.mp (by omega)
    subst h1 h2
    rw [mach_nil]; exact ⟨rfl, fun p hp => by simp at hp⟩
  | succ k ih =>
    intro K R hk hI hK hR
    cases R with
    | nil => rw [mach_nil, List.reverse_reverse]; exact ⟨hI, fun p hp => hK p (List.mem_reverse.mp hp)⟩
    | cons x R =>
      cases K with
      | nil =>
        rw [mach_first]
        exact ih [x] R (by simp only [List.length_cons, List.length_nil] at hk ⊢; omega) rfl (fun p hp => hR p (by simp only [List.mem_singleton] at hp; subst hp; exact List.mem_cons_self)) (fun p hp => hR p (List.mem_cons_of_mem _ hp))
      | cons a K =>
        have hxa := hR x List.mem_cons_self
        have haa := hK a List.mem_cons_self
        by_cases hr : red a x = true
        · have hm := mrg_length a x
          rw [mach_red K R hr]
          exact ih K (mrg a x ++ R) (by simp only [List.length_cons, List.length_append] at hk ⊢; omega) (irr_tail hI) (fun p hp => hK p (List.mem_cons_of_mem _ hp)) (fun p hp => by
            rcases List.mem_append.mp hp with h | h
            · exact okP_mrg haa hr p h
            · exact hR p (List.mem_cons_of_mem _ h))
        · have hr' : red a x = false := by simpa using hr
          rw [mach_keep K R hr']
          exact ih (x :: a :: K) R (by simp only [List.length_cons] at hk ⊢; omega) (by unfold irr; rw [hr', hI]; rfl) (fun p hp => by
            rcases List.mem_cons.mp hp with h | h
            · subst h; exact hxa
            · exact hK p h) (fun p hp => hR p (List.mem_cons_of_mem _ hp))

theorem list_ok {n : Nat} {P : Nat → Pu} (h : ∀ i, i < n → okP (P i) = true) : ∀ p ∈ (List.range n).map P, okP p = true := by
  intro p hp
  obtain ⟨i, hi, rfl⟩ := List.mem_map.mp hp
  exact h i (List.mem_range.mp hi)

/-- What is shortened: no longer, of the same angles, a sequence, and shortened again the same. -/
theorem short_facts {n : Nat} {P : Nat → Pu} (hs : seqB n P = true) : (short ((List.range n).map P)).length ≤ n ∧ seqB (short ((List.range n).map P)).length (fun i => (short ((List.range n).map P)).getD i noPu) = true ∧
    (∀ ax, ang (fun i => (short ((List.range n).map P)).getD i noPu) ax (short ((List.range n).map P)).length = ang P ax n) ∧
    short ((List.range (short ((List.range n).map P)).length).map fun i => (short ((List.range n).map P)).getD i noPu) = short ((List.range n).map P) := by
  obtain ⟨hok, h60⟩ := seqB_all hs
  have hl := short_length ((List.range n).map P)
  rw [List.length_map, List.length_range] at hl
  obtain ⟨h1, h2⟩ := mach_ok _ [] ((List.range n).map P) (Nat.le_refl _) rfl (fun p hp => by simp at hp) (list_ok hok)
  have h3 := fun ax => mach_sum ax _ [] ((List.range n).map P) (Nat.le_refl _) (fun p hp => by simp at hp) (list_ok hok)
  have e : mach [] ((List.range n).map P) = short ((List.range n).map P) := rfl
  rw [e] at h1 h2
  refine ⟨hl, seqB_of (fun i hi => ?_) (by omega), fun ax => ?_, ?_⟩
  · rw [List.getD_eq_getElem?_getD, List.getElem?_eq_getElem hi]
    exact h2 _ (List.getElem_mem hi)
  · rw [ang_sum, ang_sum, map_getD, ← e, h3 ax]
    simp [sumL]
  · rw [map_getD]
    exact short_stays h1
end Go.Proofs.YtojcdhnpdinbpaaGreatDoor
