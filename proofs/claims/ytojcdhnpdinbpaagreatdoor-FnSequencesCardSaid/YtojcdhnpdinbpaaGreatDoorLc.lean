/- The laws' source of numbers: wherever it stands, within 7 times 2 to the 30 double steps come two numbers, one double step from each other, that are no multiples of 3. -/
import Derived.Test.YtojcdhnpdinbpaaGreatDoorRows
namespace Go.Proofs.YtojcdhnpdinbpaaGreatDoor
namespace Lc

/-- One step of the laws' source of numbers. -/
def stp (h : Nat) : Nat := (h * 6364136223846793005 + 1442695040888963407) % 18446744073709551616
/-- Two steps. -/
def two (y : Nat) : Nat := (y * 7520897724310334953 + 1876011003808476466) % 18446744073709551616

theorem two_eq (y : Nat) : stp (stp y) = two y := by unfold stp two; omega
theorem stp_lt (y : Nat) : stp y < 18446744073709551616 := by unfold stp; omega
theorem two_lt (y : Nat) : two y < 18446744073709551616 := by unfold two; omega

def itg (g : Nat → Nat) : Nat → Nat → Nat
  | 0, y => y
  | n + 1, y => itg g n (g y)
theorem itg_zero (g : Nat → Nat) (y : Nat) : itg g 0 y = y := rfl
theorem itg_one (g : Nat → Nat) (y : Nat) : itg g 1 y = g y := rfl
theorem itg_add (g : Nat → Nat) (m n y : Nat) : itg g (m + n) y = itg g n (itg g m y) := by
  induction m generalizing y with
  | zero => rw [Nat.zero_add]; rfl
  | succ m ih => rw [Nat.add_right_comm]; exact ih (g y)
theorem itg_succ (g : Nat → Nat) (n y : Nat) : itg g (n + 1) y = g (itg g n y) := by rw [itg_add]; rfl

def it (n y : Nat) : Nat := itg two n y
theorem it_zero (y : Nat) : it 0 y = y := itg_zero two y
theorem it_one (y : Nat) : it 1 y = two y := itg_one two y
theorem it_add (m n y : Nat) : it (m + n) y = it n (it m y) := itg_add two m n y
theorem it_succ (n y : Nat) : it (n + 1) y = two (it n y) := itg_succ two n y
theorem it_lt (n y : Nat) (h : y < 18446744073709551616) : it n y < 18446744073709551616 := by
  cases n with
  | zero => rw [it_zero]; exact h
  | succ n => rw [it_succ]; exact two_lt _

/-- What n rounds of g do by N. -/
def Aff (g : Nat → Nat) (N m p q : Nat) : Prop := ∀ y, itg g m y % N = (y * p + q) % N

theorem Aff.add {g : Nat → Nat} {N m n p q r s : Nat} (h : Aff g N m p q) (k : Aff g N n r s) : Aff g N (m + n) (p * r % N) ((q * r + s) % N) := by
  intro y
  rw [itg_add, k, Nat.add_mod, Nat.mul_mod, h y, ← Nat.mul_mod, ← Nat.add_mod, Nat.add_mod (y * (p * r % N)), Nat.mul_mod y, Nat.mod_mod, ← Nat.mul_mod y, Nat.mod_mod, ← Nat.add_mod]
  congr 1
  rw [Nat.add_mul, Nat.mul_assoc, Nat.add_assoc]

def dblg (N B C : Nat) : Nat → Nat × Nat
  | 0 => (B, C)
  | s + 1 => ((dblg N B C s).1 * (dblg N B C s).1 % N, ((dblg N B C s).2 * (dblg N B C s).1 + (dblg N B C s).2) % N)

theorem dblg_aff (g : Nat → Nat) (N B C : Nat) (hg : ∀ y, g y = (y * B + C) % N) (s : Nat) : Aff g N (2 ^ s) (dblg N B C s).1 (dblg N B C s).2 := by
  induction s with
  | zero =>
    intro y
    rw [Nat.pow_zero, itg_one, hg, Nat.mod_mod]
    rfl
  | succ s ih => rw [Nat.pow_succ, Nat.mul_two]; exact ih.add ih

theorem dbl_30 : dblg 18446744073709551616 7520897724310334953 1876011003808476466 30 = (5925516316705292289, 2750482773444657152) := by decide +kernel

/-- 2 to the 30. -/
def K : Nat := 2 ^ 30
theorem K_eq : K = 1073741824 := rfl

/-- What K double steps add, in units of 2 to the 31. -/
def del (y : Nat) : Nat := 2759283556 * y + 1280793349

theorem two_def (y : Nat) : two y = (y * 7520897724310334953 + 1876011003808476466) % 18446744073709551616 := by unfold two; exact Eq.refl _

theorem it_K (y : Nat) (hy : y < 18446744073709551616) : it K y = (y + 2147483648 * del y) % 18446744073709551616 := by
  have h := dblg_aff two 18446744073709551616 7520897724310334953 1876011003808476466 two_def 30 y
  rw [dbl_30] at h
  dsimp only at h
  have hl : itg two (2 ^ 30) y < 18446744073709551616 := it_lt (2 ^ 30) y hy
  rw [Nat.mod_eq_of_lt hl] at h
  have hk : it K y = itg two (2 ^ 30) y := by unfold it K; exact Eq.refl _
  rw [hk, h]
  unfold del
  clear h hl hk
  omega

theorem del_two (y : Nat) : del (two y) % 8589934592 = (7520897724310334953 * del y) % 8589934592 := by
  unfold del two
  omega

theorem del_it (m y : Nat) : del (it m y) % 8589934592 = (7520897724310334953 ^ m * del y) % 8589934592 := by
  induction m with
  | zero => rw [Nat.pow_zero, Nat.one_mul, it_zero]
  | succ m ih =>
    rw [it_succ, del_two, Nat.mul_mod, ih, ← Nat.mul_mod, ← Nat.mul_assoc, Nat.pow_succ, Nat.mul_comm (7520897724310334953 ^ m)]

theorem pw (B w0 : Int) (hB : B = 1 + 8 * w0) (hw : w0 % 2 = 1) (s : Nat) : ∃ w : Int, B ^ (2 ^ s) = 1 + 2 ^ (s + 3) * w ∧ w % 2 = 1 := by
  induction s with
  | zero => exact ⟨w0, by rw [hB, Nat.pow_zero, Int.pow_succ, Int.pow_zero, Int.one_mul]; rfl, hw⟩
  | succ s ih =>
    obtain ⟨w, h1, h2⟩ := ih
    refine ⟨w + 2 * (2 ^ (s + 1) * (w * w)), ?_, by omega⟩
    rw [Nat.pow_succ, Int.pow_mul, h1]
    have e1 : (2 : Int) ^ (s + 1 + 3) = 2 * 2 ^ (s + 3) := by rw [show s + 1 + 3 = (s + 3) + 1 by omega, Int.pow_succ, Int.mul_comm]
    have e2 : (2 : Int) ^ (s + 3) = 4 * 2 ^ (s + 1) := by rw [show s + 3 = (s + 1) + 1 + 1 by omega, Int.pow_succ, Int.pow_succ]; omega
    rw [e1, e2]
    generalize (2 : Int) ^ (s + 1) = x
    grind

theorem odd_pow (B d : Int) (hB : B % 2 = 1) (hd : d % 2 = 1) (m : Nat) : (B ^ m * d) % 2 = 1 := by
  induction m with
  | zero => simpa using hd
  | succ m ih => rw [Int.pow_succ, Int.mul_right_comm, Int.mul_emod, ih, hB]; rfl

/-- The powers of a number that is 1 more than an odd multiple of 8 reach whatever has the same remainder by 8. -/
theorem dlog (B w0 : Int) (hB : B = 1 + 8 * w0) (hw : w0 % 2 = 1) (d t : Int) (hd : d % 2 = 1) (ht : (d - t) % 8 = 0) (s : Nat) : ∃ m : Nat, m < 2 ^ s ∧ ∃ e, B ^ m * d - t = 2 ^ (s + 3) * e := by
  induction s with
  | zero => exact ⟨0, by decide, (d - t) / 8, by simp; omega⟩
  | succ s ih =>
    obtain ⟨m, hm, e, he⟩ := ih
    have e1 : (2 : Int) ^ (s + 1 + 3) = 2 * 2 ^ (s + 3) := by rw [show s + 1 + 3 = (s + 3) + 1 by omega, Int.pow_succ, Int.mul_comm]
    have hlt : m + 2 ^ s < 2 ^ (s + 1) := by rw [Nat.pow_succ]; omega
    by_cases hev : e % 2 = 0
    · obtain ⟨f, rfl⟩ : ∃ f, e = 2 * f := ⟨e / 2, by omega⟩
      refine ⟨m, by omega, f, ?_⟩
      rw [he, e1, Int.mul_left_comm, Int.mul_assoc]
    · obtain ⟨w, h1, h2⟩ := pw B w0 hB hw s
      have ho := odd_pow B d (by omega) hd m
      have hx : (w * (B ^ m * d)) % 2 = 1 := by rw [Int.mul_emod, h2, ho]; rfl
      generalize hX : B ^ m * d = X at *
      refine ⟨m + 2 ^ s, hlt, (e + w * X) / 2, ?_⟩
      have h3 : e + w * X = 2 * ((e + w * X) / 2) := by omega
      have h4 : B ^ (m + 2 ^ s) * d = X + 2 ^ (s + 3) * (w * X) := by
        rw [Int.pow_add, h1, ← hX]
        grind
      rw [h4, e1, show X = t + 2 ^ (s + 3) * e by omega]
      rw [show X = t + 2 ^ (s + 3) * e by omega] at h3
      generalize (e + w * (t + 2 ^ (s + 3) * e)) / 2 = f at *
      generalize (2 : Int) ^ (s + 3) = x at *
      grind

theorem K_step (z : Nat) (t : Int) (hz : z < 18446744073709551616) (hd : ((del z : Nat) : Int) % 8589934592 = t % 8589934592) (i : Nat) :
    ∃ e : Int, ((it (K * i) z : Nat) : Int) = z + 2147483648 * (i * t) + 18446744073709551616 * e ∧ ((del (it (K * i) z) : Nat) : Int) % 8589934592 = t % 8589934592 := by
  induction i with
  | zero => exact ⟨0, by rw [Nat.mul_zero, it_zero]; simp, hd⟩
  | succ i ih =>
    obtain ⟨e, h1, h2⟩ := ih
    have hl := it_lt (K * i) z hz
    rw [Nat.mul_succ, it_add]
    generalize it (K * i) z = x at *
    have hK := it_K x hl
    have hcast : ((i + 1 : Nat) : Int) * t = i * t + t := by grind
    rw [hcast]
    generalize (i : Int) * t = v at *
    generalize it K x = x' at *
    clear hcast hd hz
    unfold del at h2 hK ⊢
    obtain ⟨k, hk⟩ : ∃ k : Int, (x' : Int) = x + 2147483648 * (2759283556 * x + 1280793349) + 18446744073709551616 * k := ⟨-(((x + 2147483648 * (2759283556 * x + 1280793349)) / 18446744073709551616 : Nat) : Int), by omega⟩
    clear hK
    obtain ⟨j, hj⟩ : ∃ j : Int, 2759283556 * (x : Int) + 1280793349 = t + 8589934592 * j := ⟨(2759283556 * (x : Int) + 1280793349 - t) / 8589934592, by omega⟩
    refine ⟨e + k + j, by omega, by omega⟩

/-- Where a number of K steps lies: a, its units of 2 to the 31 by 12; s, the step at which it comes round. -/
def cls (p c a s i : Nat) : Nat := (a + i * p + if s ≤ i then c else 0) % 12 / 4

theorem cls_up (z x : Nat) (v e : Int) (hz : z < 18446744073709551616) (hx : x < 18446744073709551616) (h : (x : Int) = z + 2147483648 * v + 18446744073709551616 * e) (h0 : 0 ≤ v) (h1 : v < 8589934592) :
    ((x / 8589934592 % 3 : Nat) : Int) = ((z / 2147483648 : Nat) + v + if 8589934592 ≤ ((z / 2147483648 : Nat) : Int) + v then 4 else 0) % 12 / 4 := by
  split <;> omega

theorem cls_down (z x : Nat) (v e : Int) (hz : z < 18446744073709551616) (hx : x < 18446744073709551616) (h : (x : Int) = z + 2147483648 * v + 18446744073709551616 * e) (h0 : v ≤ 0) (h1 : -8589934592 < v) :
    ((x / 8589934592 % 3 : Nat) : Int) = ((z / 2147483648 : Nat) + v + if ((z / 2147483648 : Nat) : Int) + v < 0 then 8 else 0) % 12 / 4 := by
  split <;> omega

theorem at_up (z : Nat) (t : Int) (p : Nat) (hz : z < 18446744073709551616) (hd : ((del z : Nat) : Int) % 8589934592 = t % 8589934592) (h0 : 0 < t) (h6 : 6 * t < 8589934592) (hp : t % 12 = p) :
    ∃ a s : Nat, a < 12 ∧ s < 8 ∧ ∀ i : Nat, i < 7 → it (K * i) z / 8589934592 % 3 = cls p 4 a s i := by
  have key : ∀ i : Nat, i < 7 → ((it (K * i) z / 8589934592 % 3 : Nat) : Int) = ((z / 2147483648 : Nat) + i * t + if 8589934592 ≤ ((z / 2147483648 : Nat) : Int) + i * t then 4 else 0) % 12 / 4 := by
    intro i hi
    obtain ⟨e, h1, _⟩ := K_step z t hz hd i
    refine cls_up z _ _ e hz (it_lt _ _ hz) h1 ?_ ?_
    · exact Int.mul_nonneg (by omega) (by omega)
    · have : (i : Int) * t ≤ 6 * t := Int.mul_le_mul_of_nonneg_right (by omega) (by omega)
      omega
  generalize hw : z / 2147483648 = w at *
  clear hd hw hz
  have hs : ∃ s : Nat, s < 8 ∧ ∀ i : Nat, i < 7 → (8589934592 ≤ (w : Int) + i * t ↔ s ≤ i) := by
    have mono : ∀ i j : Nat, i ≤ j → (i : Int) * t ≤ j * t := fun i j h => Int.mul_le_mul_of_nonneg_right (by omega) (by omega)
    by_cases h : ∃ i : Nat, i < 7 ∧ 8589934592 ≤ (w : Int) + i * t
    · obtain ⟨n, hn⟩ : ∃ n : Nat, n < 7 ∧ 8589934592 ≤ (w : Int) + n * t ∧ ∀ k, k < n → ¬ 8589934592 ≤ (w : Int) + k * t := by
        have hd : DecidablePred fun i : Nat => i < 7 ∧ 8589934592 ≤ (w : Int) + i * t := fun i => inferInstanceAs (Decidable (_ ∧ _))
        obtain ⟨i, hi⟩ := h
        induction i using Nat.strongRecOn with
        | ind i ih =>
          by_cases hk : ∃ k, k < i ∧ 8589934592 ≤ (w : Int) + k * t
          · obtain ⟨k, hk, hk2⟩ := hk
            exact ih k hk ⟨by omega, hk2⟩
          · exact ⟨i, hi.1, hi.2, fun k hk1 hk2 => hk ⟨k, hk1, hk2⟩⟩
      refine ⟨n, by omega, fun i _ => ⟨fun hi => ?_, fun hi => ?_⟩⟩
      · by_cases hni : n ≤ i
        · exact hni
        · exact absurd hi (hn.2.2 i (by omega))
      · have := mono n i hi
        omega
    · exact ⟨7, by omega, fun i hi => ⟨fun hi2 => absurd ⟨i, hi, hi2⟩ h, fun h7 => by omega⟩⟩
  obtain ⟨s, hs8, hs⟩ := hs
  refine ⟨w % 12, s, by omega, hs8, fun i hi => ?_⟩
  have k := key i hi
  have hh := hs i hi
  generalize it (K * i) z / 8589934592 % 3 = r at *
  unfold cls
  obtain ⟨u, hu⟩ : ∃ u : Int, t = 12 * u + p := ⟨t / 12, by omega⟩
  have hit : (i : Int) * t = 12 * (i * u) + (i * p : Nat) := by rw [hu]; grind
  rw [hit] at k hh
  generalize (i : Int) * u = q at *
  generalize i * p = q2 at *
  clear hs key hit hu
  by_cases hc : s ≤ i
  · rw [if_pos (hh.mpr hc)] at k
    rw [if_pos hc]
    omega
  · rw [if_neg (fun x => hc (hh.mp x))] at k
    rw [if_neg hc]
    omega

theorem at_down (z : Nat) (t : Int) (p : Nat) (hz : z < 18446744073709551616) (hd : ((del z : Nat) : Int) % 8589934592 = t % 8589934592) (h0 : t < 0) (h6 : -8589934592 < 6 * t) (hp : t % 12 = p) :
    ∃ a s : Nat, a < 12 ∧ s < 8 ∧ ∀ i : Nat, i < 7 → it (K * i) z / 8589934592 % 3 = cls p 8 a s i := by
  have mono : ∀ i j : Nat, i ≤ j → (j : Int) * t ≤ i * t := fun i j h => Int.mul_le_mul_of_nonpos_right (by omega) (by omega)
  have key : ∀ i : Nat, i < 7 → ((it (K * i) z / 8589934592 % 3 : Nat) : Int) = ((z / 2147483648 : Nat) + i * t + if ((z / 2147483648 : Nat) : Int) + i * t < 0 then 8 else 0) % 12 / 4 := by
    intro i hi
    obtain ⟨e, h1, _⟩ := K_step z t hz hd i
    have m0 := mono 0 i (by omega)
    have m6 := mono i 6 (by omega)
    refine cls_down z _ _ e hz (it_lt _ _ hz) h1 (by omega) (by omega)
  generalize hw : z / 2147483648 = w at *
  clear hd hw hz
  have hs : ∃ s : Nat, s < 8 ∧ ∀ i : Nat, i < 7 → ((w : Int) + i * t < 0 ↔ s ≤ i) := by
    by_cases h : ∃ i : Nat, i < 7 ∧ (w : Int) + i * t < 0
    · obtain ⟨n, hn⟩ : ∃ n : Nat, n < 7 ∧ (w : Int) + n * t < 0 ∧ ∀ k, k < n → ¬ (w : Int) + k * t < 0 := by
        obtain ⟨i, hi⟩ := h
        induction i using Nat.strongRecOn with
        | ind i ih =>
          by_cases hk : ∃ k, k < i ∧ (w : Int) + k * t < 0
          · obtain ⟨k, hk, hk2⟩ := hk
            exact ih k hk ⟨by omega, hk2⟩
          · exact ⟨i, hi.1, hi.2, fun k hk1 hk2 => hk ⟨k, hk1, hk2⟩⟩
      refine ⟨n, by omega, fun i _ => ⟨fun hi => ?_, fun hi => ?_⟩⟩
      · by_cases hni : n ≤ i
        · exact hni
        · exact absurd hi (hn.2.2 i (by omega))
      · have := mono n i hi
        omega
    · exact ⟨7, by omega, fun i hi => ⟨fun hi2 => absurd ⟨i, hi, hi2⟩ h, fun h7 => by omega⟩⟩
  obtain ⟨s, hs8, hs⟩ := hs
  refine ⟨w % 12, s, by omega, hs8, fun i hi => ?_⟩
  have k := key i hi
  have hh := hs i hi
  generalize it (K * i) z / 8589934592 % 3 = r at *
  unfold cls
  obtain ⟨u, hu⟩ : ∃ u : Int, t = 12 * u + p := ⟨t / 12, by omega⟩
  have hit : (i : Int) * t = 12 * (i * u) + (i * p : Nat) := by rw [hu]; grind
  rw [hit] at k hh
  generalize (i : Int) * u = q at *
  generalize i * p = q2 at *
  clear hs key hit hu mono
  by_cases hc : s ≤ i
  · rw [if_pos (hh.mpr hc)] at k
    rw [if_pos hc]
    omega
  · rw [if_neg (fun x => hc (hh.mp x))] at k
    rw [if_neg hc]
    omega

def finB (p c q d : Nat) : Bool := (List.range 12).all fun a => (List.range 8).all fun s => (List.range 12).all fun b => (List.range 8).all fun r => (List.range 7).any fun i => cls p c a s i != 0 && cls q d b r i != 0
theorem finB_out {p c q d : Nat} (h : finB p c q d = true) (a : Nat) (ha : a < 12) (s : Nat) (hs : s < 8) (b : Nat) (hb : b < 12) (r : Nat) (hr : r < 8) : ∃ i, i < 7 ∧ cls p c a s i ≠ 0 ∧ cls q d b r i ≠ 0 := by
  unfold finB at h
  have h1 := List.all_eq_true.mp h a (List.mem_range.mpr ha)
  have h2 := List.all_eq_true.mp h1 s (List.mem_range.mpr hs)
  have h3 := List.all_eq_true.mp h2 b (List.mem_range.mpr hb)
  have h4 := List.all_eq_true.mp h3 r (List.mem_range.mpr hr)
  obtain ⟨i, hi, h5⟩ := List.any_eq_true.mp h4
  rw [Bool.and_eq_true] at h5
  exact ⟨i, List.mem_range.mp hi, by simpa using h5.1, by simpa using h5.2⟩
theorem fin1 : finB 1 4 9 8 = true := by decide +kernel
theorem fin3 : finB 3 4 11 8 = true := by decide +kernel

/-- Two numbers that lie one double step from each other, neither of them a multiple of 3 after some of K steps. -/
theorem pair_ends (z : Nat) (t u : Int) (hz : z < 18446744073709551616) (hd : ((del z : Nat) : Int) % 8589934592 = t % 8589934592) (hu : (7520897724310334953 * t) % 8589934592 = u % 8589934592)
    (h : (0 < t ∧ 6 * t < 8589934592 ∧ u < 0 ∧ -8589934592 < 6 * u ∧ (t % 12 = 1 ∧ u % 12 = 9 ∨ t % 12 = 3 ∧ u % 12 = 11)) ∨ (t < 0 ∧ -8589934592 < 6 * t ∧ 0 < u ∧ 6 * u < 8589934592 ∧ (t % 12 = 9 ∧ u % 12 = 1 ∨ t % 12 = 11 ∧ u % 12 = 3))) :
    ∃ i, i < 7 ∧ it (K * i) z / 8589934592 % 3 ≠ 0 ∧ it (K * i) (two z) / 8589934592 % 3 ≠ 0 := by
  have hd2 : ((del (two z) : Nat) : Int) % 8589934592 = u % 8589934592 := by
    have := del_two z
    generalize del z = d at *
    generalize del (two z) = d2 at *
    omega
  have hz2 := two_lt z
  rcases h with ⟨h1, h2, h3, h4, ⟨h5, h6⟩ | ⟨h5, h6⟩⟩ | ⟨h1, h2, h3, h4, ⟨h5, h6⟩ | ⟨h5, h6⟩⟩
  · obtain ⟨a, s, ha, hs, f⟩ := at_up z t 1 hz hd h1 h2 h5
    obtain ⟨b, r, hb, hr, g⟩ := at_down (two z) u 9 hz2 hd2 h3 h4 h6
    obtain ⟨i, hi, k1, k2⟩ := finB_out fin1 a ha s hs b hb r hr
    exact ⟨i, hi, by rw [f i hi]; exact k1, by rw [g i hi]; exact k2⟩
  · obtain ⟨a, s, ha, hs, f⟩ := at_up z t 3 hz hd h1 h2 h5
    obtain ⟨b, r, hb, hr, g⟩ := at_down (two z) u 11 hz2 hd2 h3 h4 h6
    obtain ⟨i, hi, k1, k2⟩ := finB_out fin3 a ha s hs b hb r hr
    exact ⟨i, hi, by rw [f i hi]; exact k1, by rw [g i hi]; exact k2⟩
  · obtain ⟨b, r, hb, hr, g⟩ := at_down z t 9 hz hd h1 h2 h5
    obtain ⟨a, s, ha, hs, f⟩ := at_up (two z) u 1 hz2 hd2 h3 h4 h6
    obtain ⟨i, hi, k1, k2⟩ := finB_out fin1 a ha s hs b hb r hr
    exact ⟨i, hi, by rw [g i hi]; exact k2, by rw [f i hi]; exact k1⟩
  · obtain ⟨b, r, hb, hr, g⟩ := at_down z t 11 hz hd h1 h2 h5
    obtain ⟨a, s, ha, hs, f⟩ := at_up (two z) u 3 hz2 hd2 h3 h4 h6
    obtain ⟨i, hi, k1, k2⟩ := finB_out fin3 a ha s hs b hb r hr
    exact ⟨i, hi, by rw [g i hi]; exact k2, by rw [f i hi]; exact k1⟩

theorem reach (y : Nat) (t : Int) (ht : (((del y : Nat) : Int) - t) % 8 = 0) : ∃ m : Nat, m < 1073741824 ∧ ((del (it m y) : Nat) : Int) % 8589934592 = t % 8589934592 := by
  obtain ⟨m, hm, e, he⟩ := dlog 7520897724310334953 940112215538791869 (by decide) (by decide) (del y : Nat) t (by unfold del; omega) ht 30
  refine ⟨m, hm, ?_⟩
  have h := del_it m y
  have hc : ((7520897724310334953 ^ m * del y : Nat) : Int) = 7520897724310334953 ^ m * ((del y : Nat) : Int) := by
    rw [Int.natCast_mul, Int.natCast_pow]; rfl
  rw [← hc] at he
  generalize 7520897724310334953 ^ m * del y = X at *
  generalize del (it m y) = d at *
  have hp : (2 : Int) ^ (30 + 3) = 8589934592 := by decide
  rw [hp] at he
  clear hc hp ht hm
  omega

theorem ends_of (y : Nat) (hy : y < 18446744073709551616) (t u : Int) (h1 : (((del y : Nat) : Int) - t) % 8 = 0) (h2 : (7520897724310334953 * t) % 8589934592 = u % 8589934592)
    (h3 : (0 < t ∧ 6 * t < 8589934592 ∧ u < 0 ∧ -8589934592 < 6 * u ∧ (t % 12 = 1 ∧ u % 12 = 9 ∨ t % 12 = 3 ∧ u % 12 = 11)) ∨ (t < 0 ∧ -8589934592 < 6 * t ∧ 0 < u ∧ 6 * u < 8589934592 ∧ (t % 12 = 9 ∧ u % 12 = 1 ∨ t % 12 = 11 ∧ u % 12 = 3))) :
    ∃ m : Nat, m < 7516192768 ∧ it m y / 8589934592 % 3 ≠ 0 ∧ it (m + 1) y / 8589934592 % 3 ≠ 0 := by
  obtain ⟨m, hm, hd⟩ := reach y t h1
  obtain ⟨i, hi, k1, k2⟩ := pair_ends (it m y) t u (it_lt m y hy) hd h2 h3
  have hb : m + K * i < 7516192768 := by
    have : K * i ≤ K * 6 := Nat.mul_le_mul_left K (by omega)
    have e := K_eq
    omega
  have e2 : m + K * i + 1 = m + 1 + K * i := Nat.add_right_comm _ _ _
  refine ⟨m + K * i, hb, ?_, ?_⟩
  · rw [it_add]; exact k1
  · rw [e2, it_add, it_succ]; exact k2

theorem two_ways (y : Nat) : (2759283556 * y + 1280793349) % 8 = 1 ∨ (2759283556 * y + 1280793349) % 8 = 5 := by
  rw [Nat.add_mod, Nat.mul_mod]
  have h : y % 8 < 8 := Nat.mod_lt _ (by decide)
  revert h
  generalize y % 8 = r
  revert r
  decide
theorem del_ways (y : Nat) : ((del y : Nat) : Int) % 8 = 1 ∨ ((del y : Nat) : Int) % 8 = 5 := by
  have h : del y % 8 = 1 ∨ del y % 8 = 5 := two_ways y
  generalize del y = d at *
  omega

theorem mod8 {d t c : Int} (h : d % 8 = c) (k : t % 8 = c) : (d - t) % 8 = 0 := by omega

/-- Wherever the source stands: within 7 times 2 to the 30 double steps come two numbers, one double step from each other, that are no multiples of 3. -/
theorem ends (y : Nat) (hy : y < 18446744073709551616) : ∃ m : Nat, m < 7516192768 ∧ it m y / 8589934592 % 3 ≠ 0 ∧ it (m + 1) y / 8589934592 % 3 ≠ 0 := by
  rcases del_ways y with h | h
  · exact ends_of y hy 625 (-809003559) (mod8 h (by decide)) (by decide) (by decide)
  · exact ends_of y hy (-603) 1385258029 (mod8 h (by decide)) (by decide) (by decide)
end Lc
end Go.Proofs.YtojcdhnpdinbpaaGreatDoor
