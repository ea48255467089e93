/- Walks: RootOf of the program and of the specification. Walks: the numbers of halvings. -/
import Derived.Test.YtaghfffbhgpalaaW4
import Derived.Test.YtaghfffbhgpalaaKae
import Derived.Test.YtaghfffbhgpalaaKaf
namespace Go.Proofs.Ytaghfffbhgpalaa
open Go.RowKit

theorem sqrt_pos (m : Nat) (p : Int) (hm0 : m ≠ 0) (hm : m < 16777216) (h1 : -149 ≤ p) (h2 : p ≤ 104) :
    ∃ y, Ieee.double.sqrt (D false m p) = some y ∧ floatToFloatBits .f64 y .f32 = some (S false (Flt.rR m p) (-Flt.rk m p)) := by
  obtain ⟨k1, k2, k3, k4⟩ := Flt.rk_facts m p hm0 hm h1 h2
  obtain ⟨n1, n2, n3⟩ := Flt.rN_facts m p hm0 hm h1 h2
  obtain ⟨q1, q2⟩ := Flt.isqrt_spec (Flt.rN m p)
  obtain ⟨r1, r2, r3, r4, r5, r6, r7, r8⟩ := Flt.rR_of (Flt.rN m p) _ n1 n2 n3 q1 q2
  exact Flt.sqrt_near m (p + 2 * Flt.rk m p).toNat (Flt.rN m p) (Flt.rR m p) p (Flt.rk m p) hm0 (fitD m p 24 (by omega) (by omega) (by omega) (by omega)) rfl (by omega) n1 n2 r3 r4 r5 r6 r7 (by omega) (by omega)

/-- What the root's bits are. -/
def rootBits (s : Bool) (m : Nat) (p : Int) : Nat := if m = 0 then Ieee.single.word s 0 else S false (Flt.rR m p) (-Flt.rk m p)

end Go.Proofs.Ytaghfffbhgpalaa

namespace Go.Proofs.Ytaghfffbhgpalaa
open Go.RowKit

/-- The root of a number of at least 0, by its word. -/
def rootW (x : Nat) : Nat := match Ieee.single.read x with
  | .number s m e => rootBits s m e
  | _ => 0

/-- A number greater than 0, by its word. -/
def posW (x : Nat) : Bool := decide (0 < x ∧ x < 2139095040)

theorem pos_form (x : Nat) (h : posW x = true) : ∃ (m : Nat) (e : Int), x = S false m e ∧ Flt.Fit Ieee.single m e ∧ m ≠ 0 ∧ m < 16777216 ∧ -149 ≤ e ∧ e ≤ 104 ∧ rootW x = S false (Flt.rR m e) (-Flt.rk m e) := by
  obtain ⟨h0, h1⟩ := of_decide_eq_true h
  have h4 := Flt.word_read Ieee.single false x (by rw [Flt.s_sw]; omega)
  have hw : Ieee.single.word false x = x := rfl
  rw [hw, Flt.s_binade, Flt.s_inf, Flt.s_lp] at h4
  obtain ⟨s, m, p, hr, hf, hxe⟩ := Flt.word_fit Ieee.single (by decide) x (by show x < 4294967296; omega) (by rw [Flt.s_sw, Flt.s_inf]; omega)
  have hroot : rootW x = rootBits s m p := by unfold rootW; rw [hr]
  rw [hr] at h4
  by_cases hb : x < 8388608
  · rw [if_pos hb] at h4
    injection h4 with a b c
    subst a
    refine ⟨m, p, hxe, hf, by omega, by omega, by omega, by omega, ?_⟩
    rw [hroot]; unfold rootBits; rw [if_neg (by omega)]
  · rw [if_neg (by omega), if_pos (by omega)] at h4
    injection h4 with a b c
    subst a
    refine ⟨m, p, hxe, hf, by omega, by omega, by omega, by omega, ?_⟩
    rw [hroot]; unfold rootBits; rw [if_neg (by omega)]

/-- Half of 1 and a number. -/
def upW (c : Nat) : Nat := (floatBits .add .f32 1065353216 c).getD 0
def halfW (c : Nat) : Nat := (floatBits .quo .f32 (upW c) 1073741824).getD 0
def twiceW (c : Nat) : Nat := (floatBits .mul .f32 1073741824 c).getD 0
def overW (s c : Nat) : Nat := (floatBits .quo .f32 s (twiceW c)).getD 0

/-- The numbers of k halvings. -/
def halved : Nat → Nat × Nat
  | 0 => (0, 1065353216)
  | k + 1 => (rootW (halfW (halved k).1), overW (halved k).2 (rootW (halfW (halved k).1)))

/-- What each step wants. -/
def stepOk (c s : Nat) : Bool :=
  (floatBits .add .f32 1065353216 c == some (upW c)) && (floatBits .quo .f32 (upW c) 1073741824 == some (halfW c)) && posW (halfW c) &&
  (floatBits .mul .f32 1073741824 (rootW (halfW c)) == some (twiceW (rootW (halfW c)))) && (floatBits .quo .f32 s (twiceW (rootW (halfW c))) == some (overW s (rootW (halfW c))))

theorem steps_ok : ((List.range 24).all fun k => stepOk (halved k).1 (halved k).2) = true := by decide +kernel

theorem ends_ok : ((List.range 25).all fun k => decide ((halved k).1 < 4294967296) && fin (halved k).1 && decide ((halved k).2 < 4294967296) && fin (halved k).2) = true := by decide +kernel

theorem step_of (k : Nat) (h : k < 24) : stepOk (halved k).1 (halved k).2 = true := by
  have := List.all_eq_true.1 steps_ok k (List.mem_range.2 h)
  exact this

end Go.Proofs.Ytaghfffbhgpalaa
