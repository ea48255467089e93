/- The product of a vector and itself, of the program: no number of less than 0, so that a sum that begins with 0 is the same. -/
import Derived.Test.YtaghfffbhgpalaaG1
import Derived.Test.YtaghfffbhgpalaaKam
import Derived.Test.YtaghfffbhgpalaaCr2
import Derived.Test.YtaghfffbhgpalaaKax
import Derived.LoopTactic
namespace Go.Proofs.Ytaghfffbhgpalaa
open Go.RowKit

theorem near_any (f : Ieee.Format) (m : Nat) (e : Int) : Flt.rung f m e ≤ f.infRung := by
  show f.nearest false m e ≤ f.infRung
  unfold Ieee.Format.nearest
  split
  · exact Nat.zero_le _
  · exact Nat.min_le_right _ _

theorem near_le (m : Nat) (e : Int) : Flt.rung Ieee.single m e ≤ 2139095040 := near_any Ieee.single m e

theorem inf_read : Ieee.single.read 2139095040 = .infinity false := by decide +kernel

theorem low_read (x : Nat) (h : x < 2139095040) : ∃ m e, Ieee.single.read x = .number false m e := by
  obtain ⟨m, p, e, f, _⟩ := word_is x h
  obtain ⟨s, m', e', hr, hf, hx⟩ := fin_fit x (by omega) (decide_eq_true (by rw [mag_self (by omega)]; exact h))
  cases s
  · exact ⟨_, _, hr⟩
  · exfalso
    have h1 := (Flt.nearest_word Ieee.single true m' e').1
    have h2 : x = Ieee.single.word true (Flt.rung Ieee.single m' e') := hx.trans h1
    unfold Ieee.Format.word at h2
    rw [Flt.s_sw] at h2
    simp at h2
    omega

theorem add_nn (x y : Nat) (hx : x ≤ 2139095040) (hy : y ≤ 2139095040) : ∃ z, floatBits .add .f32 x y = some z ∧ z ≤ 2139095040 := by
  rcases Nat.lt_or_ge x 2139095040 with h | h
  · rcases Nat.lt_or_ge y 2139095040 with g | g
    · obtain ⟨m, p, e1, f1, _⟩ := word_is x h
      obtain ⟨n, q, e2, f2, _⟩ := word_is y g
      refine ⟨_, (add_up x y h g).1, ?_⟩
      rw [e1, e2, sm_rung f1 f2]
      exact near_le _ _
    · obtain rfl : y = 2139095040 := by omega
      obtain ⟨m, e, hr⟩ := low_read x h
      refine ⟨2139095040, ?_, Nat.le_refl _⟩
      show Ieee.single.add x 2139095040 = _
      unfold Ieee.Format.add
      rw [hr, inf_read]
      rfl
  · obtain rfl : x = 2139095040 := by omega
    rcases Nat.lt_or_ge y 2139095040 with g | g
    · obtain ⟨m, e, hr⟩ := low_read y g
      refine ⟨2139095040, ?_, Nat.le_refl _⟩
      show Ieee.single.add 2139095040 y = _
      unfold Ieee.Format.add
      rw [hr, inf_read]
      rfl
    · obtain rfl : y = 2139095040 := by omega
      exact ⟨2139095040, by decide +kernel, Nat.le_refl _⟩

theorem zero_add_nn (x : Nat) (hx : x ≤ 2139095040) : floatBits .add .f32 0 x = some x := by
  rcases Nat.lt_or_ge x 2139095040 with h | h
  · obtain ⟨m, p, e1, f1, _⟩ := word_is x h
    have e0 : (0 : Nat) = S false 0 (-149) := by decide +kernel
    have f0 : Flt.Fit Ieee.single 0 (-149) := ⟨by decide, by decide, .inr (by decide)⟩
    have l1 := fitS_low f1
    rw [(add_up 0 x (by omega) h).1]
    congr 1
    conv => lhs; rw [e1, e0, sm_rung f0 f1]
    rw [Nat.zero_mul, Nat.zero_add, Flt.rung_shl, show (-149 : Int) + ((p - -149).toNat : Nat) = p by omega, e1]
    rfl
  · obtain rfl : x = 2139095040 := by omega
    decide +kernel

theorem sq_nn {x : Nat} (hx : Num x) : ∃ z, floatBits .mul .f32 x x = some z ∧ z ≤ 2139095040 := by
  obtain ⟨s, m, p, _, f1, rfl⟩ := fin_fit x hx.1 hx.2
  have h' : floatBits .mul .f32 (S s m p) (S s m p) = some (S (s ^^ s) (m * m) (p + p)) := Flt.mul_fit Ieee.single (by decide) s s m m p p f1 f1
  have e : (s ^^ s) = false := by cases s <;> rfl
  rw [e] at h'
  exact ⟨_, h', near_le _ _⟩

set_option maxHeartbeats 400000 in
theorem numberOrLimit_any (x : Nat) (w : World) (hx : x < 4294967296) :
    Calls Try.prog 50 #[.float .f32 x] w fun e w' => e = .returned (if fin x then .tuple #[.float .f32 x, .int .i64 0] else .tuple #[.float .f32 0, .int .i64 3]) ∧ w = w' := by
  have A := Lib.hid (fun w => isNumber_any x w hx)
  clear hx
  generalize fin x = p at *
  cases p
  · go_enter Try.func50, Try.ntmps50
    go_wp2_with fail
    refine (A.out _).mono ?_
    rintro e w1 ⟨rfl, rfl⟩
    go_wp2_with fail
    exact bodyPost_ret (v := .tuple #[.float .f32 0, .int .i64 3]) (by simp [results, Try.results50, go_sem]) rfl ⟨rfl, rfl⟩
  · go_enter Try.func50, Try.ntmps50
    go_wp2_with fail
    refine (A.out _).mono ?_
    rintro e w1 ⟨rfl, rfl⟩
    go_wp2_with fail
    exact bodyPost_ret (v := .tuple #[.float .f32 x, .int .i64 0]) (by simp [results, Try.results50, go_sem]) rfl ⟨rfl, rfl⟩

/-- The products and the sums of a vector and itself. -/
structure Sqs (a b c p q r s t : Nat) : Prop where
  m0 : floatBits .mul .f32 a a = some p
  m1 : floatBits .mul .f32 b b = some q
  m2 : floatBits .mul .f32 c c = some r
  s0 : floatBits .add .f32 0 p = some p
  s1 : floatBits .add .f32 p q = some s
  s2 : floatBits .add .f32 s r = some t
  lt : t < 4294967296
  e : innO a b c a b c = some t

theorem sqs_of {a b c : Nat} (ha : Num a) (hb : Num b) (hc : Num c) : ∃ p q r s t, Sqs a b c p q r s t := by
  obtain ⟨p, m0, l0⟩ := sq_nn ha
  obtain ⟨q, m1, l1⟩ := sq_nn hb
  obtain ⟨r, m2, l2⟩ := sq_nn hc
  obtain ⟨s, s1, l3⟩ := add_nn p q l0 l1
  obtain ⟨t, s2, l4⟩ := add_nn s r l3 l2
  refine ⟨p, q, r, s, t, m0, m1, m2, zero_add_nn p l0, s1, s2, by omega, ?_⟩
  unfold innO opO
  simp only [m0, m1, m2, s1, s2]

set_option maxRecDepth 100000 in
set_option maxHeartbeats 2000000 in
theorem dotSelf {a b c p q r s t : Nat} (ha : Num a) (hb : Num b) (hc : Num c) (H : Sqs a b c p q r s t) (w : World) :
    Calls Try.prog 61 #[.agg #[.float .f32 a, .float .f32 b, .float .f32 c], .agg #[.float .f32 a, .float .f32 b, .float .f32 c]] w fun e w' => e = .returned (if fin t then .tuple #[.float .f32 t, .int .i64 0] else .tuple #[.float .f32 0, .int .i64 3]) ∧ Below w.heap.size w w' := by
  have HV := Lib.hid (fun w => show Calls Try.prog 19 #[.agg #[.float .f32 a, .float .f32 b, .float .f32 c]] w fun e w' => e = .returned (.bool true) ∧ Below w.heap.size w w' by
    have := isVector_any a b c w ha.1 hb.1 hc.1
    rwa [ha.2, hb.2, hc.2] at this)
  obtain ⟨m0, m1, m2, s0, s1, s2, lt, _⟩ := H
  have r0 : ∀ w, (binOp .mul 22 (.float .f32 a) (.float .f32 a)).run Try.prog w = .ok (.float .f32 p) w := fun w => run_float_arith w .mul _ .f32 _ _ _ m0
  have r1 : ∀ w, (binOp .mul 22 (.float .f32 b) (.float .f32 b)).run Try.prog w = .ok (.float .f32 q) w := fun w => run_float_arith w .mul _ .f32 _ _ _ m1
  have r2 : ∀ w, (binOp .mul 22 (.float .f32 c) (.float .f32 c)).run Try.prog w = .ok (.float .f32 r) w := fun w => run_float_arith w .mul _ .f32 _ _ _ m2
  have q0 : ∀ w, (binOp .add 22 (.float .f32 0) (.float .f32 p)).run Try.prog w = .ok (.float .f32 p) w := fun w => run_float_arith w .add _ .f32 _ _ _ s0
  have q1 : ∀ w, (binOp .add 22 (.float .f32 p) (.float .f32 q)).run Try.prog w = .ok (.float .f32 s) w := fun w => run_float_arith w .add _ .f32 _ _ _ s1
  have q2 : ∀ w, (binOp .add 22 (.float .f32 s) (.float .f32 r)).run Try.prog w = .ok (.float .f32 t) w := fun w => run_float_arith w .add _ .f32 _ _ _ s2
  have HN := Lib.hid (fun w => numberOrLimit_any t w lt)
  clear ha hb hc m0 m1 m2 s0 s1 s2 lt
  generalize fin t = ft at *
  obtain ⟨x, k, hform⟩ : ∃ (x : Nat) (k : Int), (if ft = true then Value.tuple #[.float .f32 t, .int .i64 0] else .tuple #[.float .f32 0, .int .i64 3]) = .tuple #[.float .f32 x, .int .i64 k] := by
    split
    · exact ⟨_, _, rfl⟩
    · exact ⟨_, _, rfl⟩
  rw [hform] at HN ⊢
  clear hform
  go_enter Try.func61, Try.ntmps61
  go_wp2_with fail
  refine (HV.out _).mono ?_
  rintro e w1 ⟨rfl, hb1⟩
  have V1 := Lib.hid (show VR w1 w.heap.size a b c from (VR.new w 27 a b c).below (((Below.refl _ _).alloc (Nat.le_refl _) _).trans (hb1.mono (by simp))))
  have U1 := Lib.hid (show VR w1 (w.heap.size + 1) a b c by
    have := (VR.new (w.alloc (.cells #[.float .f32 a, .float .f32 b, .float .f32 c] 27)) 27 a b c).below hb1
    simpa using this)
  have HB1 := Lib.hid (show Below w.heap.size w w1 from below_step hb1 (((Below.refl _ _).alloc (Nat.le_refl _) _).alloc (by simp) _) (by simp; omega))
  clear hb1
  obtain ⟨c3, c4, c5, _, _, _, hlt1⟩ := U1.out
  go_wp2_with fail
  refine (HV.out _).mono ?_
  rintro e w2 ⟨rfl, hb2⟩
  have V2 := Lib.hid (V1.out.below hb2)
  have U2 := Lib.hid (U1.out.below hb2)
  have HB2 := Lib.hid (below_step hb2 HB1.out HB1.out.size)
  clear hb2 c3 c4 c5 hlt1 V1 U1 HB1 HV
  obtain ⟨c0, c1, c2, _, _, _, hl0⟩ := V2.out
  obtain ⟨c3, c4, c5, _, _, _, hl1⟩ := U2.out
  go_wp2_with fail
  go_loopw [6, 16] (fun o i wr => ∃ n, wr = w2.drewN n ∧ (i = .int .i64 0 ∧ o = .float .f32 0 ∨ i = .int .i64 1 ∧ o = .float .f32 p ∨ i = .int .i64 2 ∧ o = .float .f32 s ∨ i = .int .i64 3 ∧ o = .float .f32 t)) (fun _ i _ => 3 - (intOf i).toNat)
  case atStart => exact ⟨0, rfl, .inl ⟨rfl, rfl⟩⟩
  case round =>
    obtain ⟨n, rfl, ⟨rfl, rfl⟩ | ⟨rfl, rfl⟩ | ⟨rfl, rfl⟩ | ⟨rfl, rfl⟩⟩ := hrel
    · go_wp2_with fail
      go_quiet (fail)
      go_wp2_with fail
      go_roundw
      case rel => exact ⟨_, rfl, .inr (.inl ⟨by go_num, rfl⟩)⟩
      case measure => simp [intOf]
    · go_wp2_with fail
      go_quiet (fail)
      go_wp2_with fail
      go_roundw
      case rel => exact ⟨_, rfl, .inr (.inr (.inl ⟨by go_num, rfl⟩))⟩
      case measure => simp [intOf]
    · go_wp2_with fail
      go_quiet (fail)
      go_wp2_with fail
      go_roundw
      case rel => exact ⟨_, rfl, .inr (.inr (.inr ⟨by go_num, rfl⟩))⟩
      case measure => simp [intOf]
    · go_wp2_with fail
      refine (HN.out _).mono ?_
      rintro e w3 ⟨rfl, rfl⟩
      go_wp2_with fail
      exact bodyPost_ret (v := .tuple #[.float .f32 x, .int .i64 k]) (by simp [results, Try.results61, go_sem]) rfl ⟨rfl, below_drewN HB2.out _⟩

end Go.Proofs.Ytaghfffbhgpalaa
