/- What the functions of chapter 1 hand back, field by field, for the law FnNumbers. -/
import Derived.Test.YtffilcmcjelajaaS4
import Derived.Test.YtffilcmcjelajaaW6
import Derived.Test.YtffilcmcjelajaaPl
import Derived.Test.YtffilcmcjelajaaSt
namespace Go.Proofs.Ytffilcmcjelajaa
open Go.RowKit

def pv (x : Nat) : Int := if fin x then place x else 0
def pc (x : Nat) : Int := if fin x then 0 else 1
def av (i : Int) : Nat := if -2139095040 < i ∧ i < 2139095040 then wordAt i else 0
def ac (i : Int) : Int := if -2139095040 < i ∧ i < 2139095040 then 0 else 2
def stv (x y : Nat) : Int := if fin x && fin y then dist (place x) (place y) else 0
def stc (x y : Nat) : Int := if fin x && fin y then 0 else 1

theorem placeRes_eq (x : Nat) : placeRes x = .tuple #[.int .i64 (pv x), .int .i64 (pc x)] := by unfold placeRes pv pc; split <;> rfl
theorem atRes_eq (i : Int) : atRes i = .tuple #[.float .f32 (av i), .int .i64 (ac i)] := by unfold atRes av ac; split <;> rfl
theorem stepsRes_eq (x y : Nat) : stepsRes x y = .tuple #[.int .i64 (stv x y), .int .i64 (stc x y)] := by unfold stepsRes stv stc; split <;> rfl

theorem pv_bd (x : Nat) : -2147483648 < pv x ∧ pv x < 2147483648 := by
  have := place_lt x
  unfold pv; split <;> omega

theorem order_selfS (x : Nat) (hx : x < 4294967296) (hf : fin x = true) : FloatKind.f32.format.order x x = some .eq := by
  obtain ⟨s, m, p, rfl, h, _⟩ := fin_cases x hx hf
  have := Flt.order_fit Ieee.single (by decide) s s m m p p p h h (Int.le_refl _) (Int.le_refl _)
  rw [cmp_eq rfl] at this
  exact this

theorem av_fin (i : Int) : av i < 4294967296 ∧ fin (av i) = true := by
  unfold av
  split
  · rename_i h; exact wordAt_fin i h.1 h.2
  · exact ⟨by omega, by decide +kernel⟩

theorem mag_less (x : Nat) (hx : x < 4294967296) (hf : fin x = true) : (mag x = 0 ∧ less0 x = false) ∨ (mag x ≠ 0 ∧ x = Ieee.single.word (less0 x) (mag x)) := by
  obtain ⟨s, m, p, he, h, hc⟩ := fin_cases x hx hf
  have hl := less0_S s m p h
  rw [← he] at hl
  have hsplit := word_split x hx
  by_cases hm : m = 0
  · left
    refine ⟨by omega, ?_⟩
    rw [hl]; simp [hm]
  · right
    refine ⟨by omega, ?_⟩
    have hl2 : less0 x = s := by rw [hl]; simp [hm]
    rw [hl2]
    -- the sign of the word is the sign of the number
    obtain ⟨r, hr, hw⟩ := Flt.nearest_rung Ieee.single m p
    have e1 : x = Ieee.single.word s r := by rw [he]; exact hw s
    have e2 : mag x = r := by
      rw [e1]; unfold mag Ieee.Format.word
      rw [Flt.s_sw] at *
      cases s
      · simp; omega
      · simp; omega
    rw [e2]; exact e1

theorem word_mag (s : Bool) (r : Nat) (hr : r < 2147483648) : mag (Ieee.single.word s r) = r ∧ Ieee.single.word s r < 4294967296 := by
  unfold mag Ieee.Format.word
  rw [Flt.s_sw]
  cases s
  · simp; omega
  · simp; omega

theorem less_word (s : Bool) (r : Nat) (hr : r < 2139095040) : less0 (Ieee.single.word s r) = (s && decide (r ≠ 0)) := by
  obtain ⟨h1, h2⟩ := word_mag s r (by omega)
  have hf : fin (Ieee.single.word s r) = true := decide_eq_true (by rw [h1]; exact hr)
  rcases mag_less _ h2 hf with ⟨a, b⟩ | ⟨a, b⟩
  · rw [b]; rw [h1] at a; subst a; simp
  · rw [h1] at a b
    have : less0 (Ieee.single.word s r) = s := by
      generalize less0 (Ieee.single.word s r) = t at *
      unfold Ieee.Format.word at b
      rw [Flt.s_sw] at b
      cases s <;> cases t <;> simp at b ⊢ <;> omega
    rw [this]; simp [a]

/-- Numbers come back from their places. -/
theorem at_place (x : Nat) (hx : x < 4294967296) (hf : fin x = true) : av (place x) < 4294967296 ∧ ac (place x) = 0 ∧ FloatKind.f32.format.order (av (place x)) x = some .eq := by
  obtain ⟨p1, p2⟩ := place_fin x hf
  have hav : av (place x) = wordAt (place x) := if_pos ⟨p1, p2⟩
  refine ⟨(av_fin _).1, if_pos ⟨p1, p2⟩, ?_⟩
  rw [hav]
  rcases mag_less x hx hf with ⟨a, b⟩ | ⟨a, b⟩
  · have hp : place x = 0 := by unfold place; rw [b, a]; rfl
    rw [hp]
    have hsplit := word_split x hx
    rw [a] at hsplit
    generalize (x / 2147483648 % 2 == 1) = s at hsplit
    rw [hsplit]
    cases s <;> decide +kernel
  · have hw : wordAt (place x) = x := by
      have hm := mag_lt x
      unfold place wordAt
      conv => rhs; rw [b]
      unfold Ieee.Format.word
      rw [Flt.s_sw]
      cases less0 x
      · simp; omega
      · simp; omega
    rw [hw]; exact order_selfS x hx hf

/-- A number turned round has the opposite place. -/
theorem place_neg (x : Nat) (hx : x < 4294967296) (hf : fin x = true) : ∃ z : Nat, z < 4294967296 ∧ pc z = 0 ∧ pv z = -place x ∧ ∀ w, (Op.unary .neg (.float .f32 x)).run Try.prog w = .ok (.float .f32 z) w := by
  have hsplit := word_split x hx
  have hm := mag_lt x
  have hfm : mag x < 2139095040 := of_decide_eq_true hf
  generalize hs : (x / 2147483648 % 2 == 1) = s at hsplit
  refine ⟨Ieee.single.word (!s) (mag x), (word_mag _ _ hm).2, ?_, ?_, ?_⟩
  · have : fin (Ieee.single.word (!s) (mag x)) = true := decide_eq_true (by rw [(word_mag _ _ hm).1]; exact hfm)
    unfold pc; rw [if_pos this]
  · have h1 : fin (Ieee.single.word (!s) (mag x)) = true := decide_eq_true (by rw [(word_mag _ _ hm).1]; exact hfm)
    unfold pv; rw [if_pos h1]
    unfold place
    rw [(word_mag _ _ hm).1, less_word _ _ hfm]
    have h2 : less0 x = (s && decide (mag x ≠ 0)) := by
      have := less_word s (mag x) hfm
      rw [← hsplit] at this; exact this
    rw [h2]
    cases s <;> by_cases h0 : mag x = 0 <;> simp [h0]
  · intro w
    have hfl := Flt.flip_word Ieee.single s (mag x) (by rw [Flt.s_sw]; exact hm)
    rw [← hsplit] at hfl
    exact congrArg (fun b => Result.ok (Value.float .f32 b) w) hfl

/-- Places come back from their numbers. -/
theorem place_at (i : Int) (h : ac i = 0) : pc (av i) = 0 ∧ pv (av i) = i := by
  unfold ac at h
  split at h
  · rename_i hr
    have hav : av i = wordAt i := if_pos hr
    obtain ⟨w1, w2⟩ := wordAt_fin i hr.1 hr.2
    rw [hav]
    refine ⟨by unfold pc; rw [if_pos w2], ?_⟩
    unfold pv
    rw [if_pos w2]
    have hw : wordAt i = Ieee.single.word (decide (i < 0)) i.natAbs := by
      unfold wordAt Ieee.Format.word
      rw [Flt.s_sw]
      by_cases g : i < 0
      · simp [g]; omega
      · simp [g]; omega
    have hn : i.natAbs < 2139095040 := by omega
    rw [hw]
    unfold place
    rw [less_word _ _ hn, (word_mag _ _ (by omega)).1]
    by_cases g : i < 0
    · have : i.natAbs ≠ 0 := by omega
      simp [g, this]; omega
    · simp [g]; omega
  · omega

theorem place_zero (x : Nat) (h : mag x = 0) : place x = 0 := by unfold place; rw [h]; split <;> rfl

theorem digits_eq (s t : Bool) (m n : Nat) (p q : Int) (hp : -149 ≤ p) (hq : -149 ≤ q) (hm : m ≠ 0)
    (h : Flt.sv s m * 2 ^ (p - -149).toNat = Flt.sv t n * 2 ^ (q - -149).toNat) : S s m p = S t n q := by
  have a1 : (0 : Int) < 2 ^ (p - -149).toNat := Int.pow_pos (by omega)
  have a2 : (0 : Int) < 2 ^ (q - -149).toNat := Int.pow_pos (by omega)
  have e1 := Flt.nearest_low Ieee.single s m p (p - -149).toNat
  have e2 := Flt.nearest_low Ieee.single t n q (q - -149).toNat
  rw [show p - (((p - -149).toNat : Nat) : Int) = -149 by omega] at e1
  rw [show q - (((q - -149).toNat : Nat) : Int) = -149 by omega] at e2
  have key : s = t ∧ m * 2 ^ (p - -149).toNat = n * 2 ^ (q - -149).toNat := by
    have b1 : (0 : Int) < (m : Int) * 2 ^ (p - -149).toNat := Int.mul_pos (by omega) a1
    have b2 : (0 : Int) ≤ (n : Int) * 2 ^ (q - -149).toNat := Int.mul_nonneg (by omega) (Int.le_of_lt a2)
    unfold Flt.sv at h
    have conv : ∀ u v : Nat, ((u : Int) * 2 ^ v) = ((u * 2 ^ v : Nat) : Int) := by intro u v; simp
    cases s <;> cases t
    · simp only [Bool.false_eq_true, if_false] at h
      refine ⟨rfl, ?_⟩
      rw [conv, conv] at h
      exact Int.ofNat.inj h
    · simp only [Bool.false_eq_true, if_false, if_true, Int.neg_mul] at h; omega
    · simp only [Bool.false_eq_true, if_false, if_true, Int.neg_mul] at h; omega
    · simp only [if_true, Int.neg_mul] at h
      refine ⟨rfl, ?_⟩
      have h := Int.neg_inj.1 h
      rw [conv, conv] at h
      exact Int.ofNat.inj h
  unfold S
  rw [e1, e2, key.1, key.2]

/-- Equal numbers have equal places, and no others. -/
theorem eq_places (x y : Nat) (hx : x < 4294967296) (hy : y < 4294967296) (fx : fin x = true) (fy : fin y = true) :
    (FloatKind.f32.format.order x y == some .eq) = decide (place x = place y) := by
  by_cases hp : place x = place y
  · rw [decide_eq_true hp]
    rcases mag_less x hx fx with ⟨a1, b1⟩ | ⟨a1, b1⟩ <;> rcases mag_less y hy fy with ⟨a2, b2⟩ | ⟨a2, b2⟩
    · have h1 := word_split x hx
      have h2 := word_split y hy
      rw [a1] at h1
      rw [a2] at h2
      generalize (x / 2147483648 % 2 == 1) = s at h1
      generalize (y / 2147483648 % 2 == 1) = t at h2
      rw [h1, h2]
      cases s <;> cases t <;> decide +kernel
    · rw [place_zero x a1] at hp
      unfold place at hp
      split at hp <;> omega
    · rw [place_zero y a2] at hp
      unfold place at hp
      split at hp <;> omega
    · have : less0 x = less0 y ∧ mag x = mag y := by
        unfold place at hp
        cases h1 : less0 x <;> cases h2 : less0 y <;> simp only [h1, h2, if_true, if_false, Bool.false_eq_true] at hp
        · exact ⟨rfl, by omega⟩
        · omega
        · omega
        · exact ⟨rfl, by omega⟩
      have hxy : x = y := by rw [b1, b2, this.1, this.2]
      rw [hxy, order_selfS y hy fy]; rfl
  · rw [decide_eq_false hp]
    obtain ⟨s, m, p, ex, h, hc⟩ := fin_cases x hx fx
    obtain ⟨t, n, q, ey, h', hc'⟩ := fin_cases y hy fy
    have ho := Flt.order_fit Ieee.single (by decide) s t m n p q (-149) h h' (by omega) (by omega)
    have ho' : FloatKind.f32.format.order x y = some (compare (Flt.sv s m * 2 ^ (p - -149).toNat) (Flt.sv t n * 2 ^ (q - -149).toNat)) := by rw [ex, ey]; exact ho
    rw [ho']
    have hne : Flt.sv s m * 2 ^ (p - -149).toNat ≠ Flt.sv t n * 2 ^ (q - -149).toNat := by
      intro he
      apply hp
      by_cases hm : m = 0
      · have hn : n = 0 := by
          by_cases hn : n = 0
          · exact hn
          · have := digits_eq t s n m q p (by omega) (by omega) hn he.symm
            have hz : Flt.sv t n * 2 ^ (q - -149).toNat = 0 := by rw [← he, hm]; cases s <;> simp [Flt.sv]
            rcases Int.mul_eq_zero.1 hz with g | g
            · unfold Flt.sv at g; split at g <;> omega
            · have : (0 : Int) < 2 ^ (q - -149).toNat := Int.pow_pos (by omega)
              omega
        rw [place_zero x (by omega), place_zero y (by omega)]
      · have := digits_eq s t m n p q (by omega) (by omega) hm he
        rw [ex, ey, this]
    rcases Int.lt_or_gt_of_ne hne with g | g
    · rw [cmp_lt g]; rfl
    · rw [cmp_gt g]; rfl
end Go.Proofs.Ytffilcmcjelajaa
