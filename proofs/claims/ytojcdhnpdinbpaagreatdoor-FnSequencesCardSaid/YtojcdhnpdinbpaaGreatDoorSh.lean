/- Shortening, on lists: the machine that takes pulse by pulse, and the steps. -/
import Derived.Test.YtojcdhnpdinbpaaGreatDoorP3
namespace Go.Proofs.YtojcdhnpdinbpaaGreatDoor

/-- Two neighbours that can be shortened; what takes their place. -/
def red (a b : Pu) : Bool := decide (a.ax = b.ax) && (decide (a.ha = b.ha) && (decide (a.bk ≠ b.bk) || decide (a.ha ≠ 0)))
def mrg (a b : Pu) : List Pu := if a.bk = b.bk then [⟨a.ax, a.ha - 1, a.bk⟩] else []

theorem mrg_length (a b : Pu) : (mrg a b).length ≤ 1 := by
  unfold mrg
  split <;> simp

/-- The machine: what is kept (the last one first), and what is to come. -/
def mach : List Pu → List Pu → List Pu
  | K, [] => K.reverse
  | [], x :: R => mach [x] R
  | k :: K, x :: R => if red k x then mach K (mrg k x ++ R) else mach (x :: k :: K) R
termination_by K R => 2 * R.length + K.length
decreasing_by
  · simp only [List.length_cons, List.length_nil]; omega
  · have := mrg_length k x
    simp only [List.length_cons, List.length_append]; omega
  · simp only [List.length_cons]; omega

/-- The list that has been shortened. -/
def short (L : List Pu) : List Pu := mach [] L

theorem mach_nil (K : List Pu) : mach K [] = K.reverse := by rw [mach]
theorem mach_first (x : Pu) (R : List Pu) : mach [] (x :: R) = mach [x] R := by rw [mach]
theorem mach_red {k x : Pu} (K R : List Pu) (h : red k x = true) : mach (k :: K) (x :: R) = mach K (mrg k x ++ R) := by rw [mach, if_pos h]
theorem mach_keep {k x : Pu} (K R : List Pu) (h : red k x = false) : mach (k :: K) (x :: R) = mach (x :: k :: K) R := by rw [mach, if_neg (by rw [h]; simp)]

/-- No two neighbours can be shortened (the last one first). -/
def irr : List Pu → Bool
  | x :: k :: K => !red k x && irr (k :: K)
  | _ => true

theorem irr_tail {x : Pu} {K : List Pu} (h : irr (x :: K) = true) : irr K = true := by
  cases K with
  | nil => rfl
  | cons k K =>
    unfold irr at h
    simp only [Bool.and_eq_true] at h
    exact h.2

theorem irr_back {A K : List Pu} (h : irr (A ++ K) = true) : irr K = true := by
  induction A with
  | nil => exact h
  | cons a A ih => exact ih (irr_tail h)

theorem mach_push {x : Pu} {K R : List Pu} (h : irr (x :: K) = true) : mach K (x :: R) = mach (x :: K) R := by
  cases K with
  | nil => exact mach_first x R
  | cons k K =>
    unfold irr at h
    simp only [Bool.and_eq_true, Bool.not_eq_true'] at h
    exact mach_keep K R h.1

theorem mach_many {A K T : List Pu} (h : irr (A.reverse ++ K) = true) : mach K (A ++ T) = mach (A.reverse ++ K) T := by
  induction A generalizing K with
  | nil => rfl
  | cons x A ih =>
    have h2 : irr (A.reverse ++ (x :: K)) = true := by simpa using h
    show mach K (x :: (A ++ T)) = _
    rw [mach_push (irr_back h2), ih h2]
    simp

/-- A list in which nothing can be shortened stays. -/
theorem short_stays {L : List Pu} (h : irr L.reverse = true) : short L = L := by
  have := mach_many (A := L) (K := []) (T := []) (by simpa using h)
  unfold short
  rw [List.append_nil, List.append_nil] at this
  rw [this, mach_nil, List.reverse_reverse]

/-- The first two neighbours that can be shortened give way. -/
theorem short_step {A T : List Pu} {a b : Pu} (h : irr (A ++ [a]).reverse = true) (hr : red a b = true) : short (A ++ a :: b :: T) = short (A ++ (mrg a b ++ T)) := by
  unfold short
  have h1 : irr ((A ++ [a]).reverse ++ []) = true := by simpa using h
  have h2 : irr (A.reverse ++ []) = true := by
    have : irr ([a] ++ A.reverse) = true := by simpa using h
    simpa using irr_back this
  have e : A ++ a :: b :: T = (A ++ [a]) ++ (b :: T) := by simp
  rw [e, mach_many h1, mach_many h2]
  have e2 : (A ++ [a]).reverse ++ [] = a :: (A.reverse ++ []) := by simp
  rw [e2, mach_red _ _ hr]

theorem short_length_aux : ∀ (n : Nat) (K R : List Pu), 2 * R.length + K.length ≤ n → (mach K R).length ≤ K.length + R.length := by
  intro n
  induction n with
  | zero =>
    intro K R h
    have : R = [] := List.eq_nil_of_length_eq_zero (by omega)
    subst this
    rw [mach_nil]; simp
  | succ n ih =>
    intro K R h
    match K, R with
    | K, [] => rw [mach_nil]; simp
    | [], x :: R =>
      rw [mach_first]
      have := ih [x] R (by simp only [List.length_cons, List.length_nil] at *; omega)
      simp only [List.length_cons, List.length_nil] at *; omega
    | k :: K, x :: R =>
      cases hr : red k x
      · rw [mach_keep K R hr]
        have := ih (x :: k :: K) R (by simp only [List.length_cons] at *; omega)
        simp only [List.length_cons] at *; omega
      · rw [mach_red K R hr]
        have hm := mrg_length k x
        have := ih K (mrg k x ++ R) (by simp only [List.length_cons, List.length_append] at *; omega)
        simp only [List.length_cons, List.length_append] at *; omega

theorem short_length (L : List Pu) : (short L).length ≤ L.length := by
  have := short_length_aux _ [] L (Nat.le_refl _)
  simpa [short] using this

theorem okP_mrg {a b : Pu} (ha : okP a = true) (hr : red a b = true) : ∀ x ∈ mrg a b, okP x = true := by
  intro x hx
  unfold mrg at hx
  split at hx
  · rename_i hb
    simp only [List.mem_singleton] at hx
    subst hx
    unfold red at hr
    unfold okP at *
    simp [hb] at hr
    simp at ha ⊢
    omega
  · simp at hx
end Go.Proofs.YtojcdhnpdinbpaaGreatDoor
