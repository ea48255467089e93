/- StepOfField of the program: the step, or a panic that the door takes. -/
import Derived.Test.YtaghfffbhgpalaaDt
import Derived.Test.YtaghfffbhgpalaaKbu
import Derived.Test.YtaghfffbhgpalaaG5
import Derived.Test.YtaghfffbhgpalaaStepF
namespace Go.Proofs.Ytaghfffbhgpalaa
open Go.RowKit

set_option maxHeartbeats 1000000 in
theorem innerSelf {a b c t : Nat} (HD : ∀ w, Calls Try.prog 61 #[.agg #[.float .f32 a, .float .f32 b, .float .f32 c], .agg #[.float .f32 a, .float .f32 b, .float .f32 c]] w fun e w' => e = .returned (if fin t then .tuple #[.float .f32 t, .int .i64 0] else .tuple #[.float .f32 0, .int .i64 3]) ∧ Below w.heap.size w w') (w : World) :
    Calls Try.prog 49 #[.agg #[.float .f32 a, .float .f32 b, .float .f32 c], .agg #[.float .f32 a, .float .f32 b, .float .f32 c]] w fun e w' => e = .returned (if fin t then .tuple #[.float .f32 t, .int .i64 0] else .tuple #[.float .f32 0, .int .i64 3]) ∧ Below w.heap.size w w' := by
  replace HD := Lib.hid HD
  obtain ⟨x, k, hform⟩ : ∃ (x : Nat) (k : Int), (if fin t then Value.tuple #[.float .f32 t, .int .i64 0] else .tuple #[.float .f32 0, .int .i64 3]) = .tuple #[.float .f32 x, .int .i64 k] := by
    split
    · exact ⟨_, _, rfl⟩
    · exact ⟨_, _, rfl⟩
  rw [hform] at HD ⊢
  clear hform
  go_enter Try.func49, Try.ntmps49
  go_wp2_with fail
  refine (HD.out _).mono ?_
  rintro e w1 ⟨rfl, hb1⟩
  have HB1 := Lib.hid (show Below w.heap.size w w1 from below_step hb1 (((Below.refl _ _).alloc (Nat.le_refl _) _).alloc (by simp) _) (by simp; omega))
  clear hb1
  go_wp2_with fail
  exact bodyPost_ret (v := .tuple #[.float .f32 x, .int .i64 k]) (by simp [results, Try.results49, go_sem]) rfl ⟨rfl, HB1.out⟩

/-- What a number's product and a second one leave behind in numberOrLimit, whatever comes. -/
theorem limit_fw {o : Option Nat} {x : Nat} (h : Fw o x) (hf : finO o = false) (w : World) :
    Calls Try.prog 50 #[.float .f32 x] w fun e w' => e = .returned (.tuple #[.float .f32 0, .int .i64 3]) ∧ w = w' := by
  have := numberOrLimit_any x w h.1
  rw [fw_fin h, hf] at this
  exact this

set_option maxRecDepth 100000 in
set_option maxHeartbeats 2000000 in
theorem stepWith_no {a b c h : Nat} (ha : Num a) (hb : Num b) (hc : Num c) (hh : Num h) (H : finO (qO a b c h) = false) (w : World) :
    Calls Try.prog 30 #[.agg #[.float .f32 a, .float .f32 b, .float .f32 c], .float .f32 h] w fun e w' => e = panicC 3 ∧ Below w.heap.size w w' := by
  obtain ⟨k, hk, lk, fk, _, _⟩ := half_word hh.1 hh.2
  obtain ⟨kk, hkk⟩ := mul_some lk lk fk fk
  have lkk := floatBits_lt hkk
  have rk : ∀ w, (binOp .quo 22 (.float .f32 h) (.float .f32 1073741824)).run Try.prog w = .ok (.float .f32 k) w := fun w => run_float_arith w .quo _ .f32 h 1073741824 k hk
  have rkk : ∀ w, (binOp .mul 22 (.float .f32 k) (.float .f32 k)).run Try.prog w = .ok (.float .f32 kk) w := fun w => run_float_arith w .mul _ .f32 k k kk hkk
  obtain ⟨p, q, r, s, t, SQ⟩ := sqs_of ha hb hc
  have HI := Lib.hid (innerSelf (fun w => dotSelf ha hb hc SQ w))
  have M0 := Lib.hid (fun w => mustF_no 0 3 (by omega) w)
  have M1 := Lib.hid (fun w => mustF_yes t w)
  have e1 : kO h = some k := hk
  have e2 : kkO h = some kk := by unfold kkO; rw [e1]; exact hkk
  have e3 : sqO a b c = some t := SQ.e
  have Hq : finO (opO .mul (some kk) (some t)) = false := by
    have e4 : qO a b c h = opO .mul (some kk) (some t) := by unfold qO; rw [e2, e3]
    rw [← e4]
    exact H
  have lt := SQ.lt
  unfold panicC at *
  clear ha hb hc hh H hk lk fk hkk SQ e1 e2 e3
  cases hft : fin t
  · rw [hft] at HI
    simp only [Bool.false_eq_true, if_false] at HI
    clear hft Hq lt
    go_enter Try.func30, Try.ntmps30
    go_wp2_with fail
    refine (HI.out _).mono ?_
    rintro e w1 ⟨rfl, hb1⟩
    have HB1 := Lib.hid (show Below w.heap.size w w1 from below_step hb1 (((Below.refl _ _).alloc (Nat.le_refl _) _).alloc (by simp) _) (by simp; omega))
    clear hb1
    go_wp2_with fail
    refine (M0.out _).mono ?_
    rintro e w2 ⟨rfl, rfl⟩
    go_wp2_with fail
    exact ⟨rfl, rfl, HB1.out⟩
  · rw [hft] at HI
    simp only [if_true] at HI
    clear hft
    go_enter Try.func30, Try.ntmps30
    go_wp2_with fail
    refine (HI.out _).mono ?_
    rintro e w1 ⟨rfl, hb1⟩
    have HB1 := Lib.hid (show Below w.heap.size w w1 from below_step hb1 (((Below.refl _ _).alloc (Nat.le_refl _) _).alloc (by simp) _) (by simp; omega))
    clear hb1
    go_wp2_with fail
    refine (M1.out _).mono ?_
    rintro e w2 ⟨rfl, rfl⟩
    obtain ⟨qv, nq, hq, oq⟩ := op_run (P := Try.prog) w1 .mul 22 (by simp) (fw_some lkk) (fw_some lt)
    have L := Lib.hid (limit_fw oq Hq)
    clear oq Hq lkk lt
    go_wp2_with fail
    refine (L.out _).mono ?_
    rintro e w3 ⟨rfl, rfl⟩
    go_wp2_with fail
    refine (M0.out _).mono ?_
    rintro e w3 ⟨rfl, rfl⟩
    go_wp2_with fail
    exact ⟨rfl, rfl, below_drewN HB1.out _⟩

set_option maxRecDepth 100000 in
set_option maxHeartbeats 4000000 in
theorem stepWith_yes {a b c h k kk sq q d g f s x y z : Nat} (ha : Num a) (hb : Num b) (hc : Num c) (S : Stp a b c h k kk sq q d g f s x y z) (w : World) :
    Calls Try.prog 30 #[.agg #[.float .f32 a, .float .f32 b, .float .f32 c], .float .f32 h] w fun e w' => e = .returned (tableOf s x y z) ∧ Below w.heap.size w w' := by
  obtain ⟨p, q', r, s', t, SQ⟩ := sqs_of ha hb hc
  have HI := Lib.hid (innerSelf (fun w => dotSelf ha hb hc SQ w))
  obtain ⟨qk, qkk, qsq, qq, qd, qg, qf, qw, qx, qy, qz, fk, fkk, fsq, fq, fd, fg, ff, fw, fx, fy, fz, _, _, _, _⟩ := S
  have et : t = sq := by
    have e3 : sqO a b c = some t := SQ.e
    exact Option.some.inj (e3.symm.trans qsq)
  subst et
  rw [fsq.2] at HI
  simp only [if_true] at HI
  have rk : ∀ w, (binOp .quo 22 (.float .f32 h) (.float .f32 1073741824)).run Try.prog w = .ok (.float .f32 k) w := fun w => run_float_arith w .quo _ .f32 h 1073741824 k qk
  have rkk : ∀ w, (binOp .mul 22 (.float .f32 k) (.float .f32 k)).run Try.prog w = .ok (.float .f32 kk) w := fun w => run_float_arith w .mul _ .f32 k k kk qkk
  have rq : ∀ w, (binOp .mul 22 (.float .f32 kk) (.float .f32 t)).run Try.prog w = .ok (.float .f32 q) w := fun w => run_float_arith w .mul _ .f32 kk t q qq
  have rd : ∀ w, (binOp .add 22 (.float .f32 1065353216) (.float .f32 q)).run Try.prog w = .ok (.float .f32 d) w := fun w => run_float_arith w .add _ .f32 1065353216 q d qd
  have rg : ∀ w, (binOp .sub 22 (.float .f32 1065353216) (.float .f32 q)).run Try.prog w = .ok (.float .f32 g) w := fun w => run_float_arith w .sub _ .f32 1065353216 q g qg
  have rf : ∀ w, (binOp .quo 22 (.float .f32 h) (.float .f32 d)).run Try.prog w = .ok (.float .f32 f) w := fun w => run_float_arith w .quo _ .f32 h d f qf
  have rw' : ∀ w, (binOp .quo 22 (.float .f32 g) (.float .f32 d)).run Try.prog w = .ok (.float .f32 s) w := fun w => run_float_arith w .quo _ .f32 g d s qw
  have rx : ∀ w, (binOp .mul 22 (.float .f32 f) (.float .f32 a)).run Try.prog w = .ok (.float .f32 x) w := fun w => run_float_arith w .mul _ .f32 f a x qx
  have ry : ∀ w, (binOp .mul 22 (.float .f32 f) (.float .f32 b)).run Try.prog w = .ok (.float .f32 y) w := fun w => run_float_arith w .mul _ .f32 f b y qy
  have rz : ∀ w, (binOp .mul 22 (.float .f32 f) (.float .f32 c)).run Try.prog w = .ok (.float .f32 z) w := fun w => run_float_arith w .mul _ .f32 f c z qz
  have L := Lib.hid (fun w => show Calls Try.prog 50 #[.float .f32 q] w fun e w' => e = .returned (.tuple #[.float .f32 q, .int .i64 0]) ∧ w = w' by
    have := numberOrLimit_any q w fq.1
    rw [fq.2] at this
    exact this)
  have M1 := Lib.hid (fun w => mustF_yes t w)
  have M2 := Lib.hid (fun w => mustF_yes q w)
  have HT := Lib.hid (fun w => turnOfParts_any s x y z w)
  unfold tableOf at *
  clear ha hb hc qk qkk qsq qq qd qg qf qw qx qy qz fk fkk fsq fq fd fg ff fw fx fy fz SQ
  go_enter Try.func30, Try.ntmps30
  go_wp2_with fail
  refine (HI.out _).mono ?_
  rintro e w1 ⟨rfl, hb1⟩
  obtain ⟨c0, c1, c2, hl0⟩ := show VF w1 w.heap.size a b c by
    have := (VR.new w 27 a b c).below (((Below.refl _ _).alloc (Nat.le_refl _) _).trans (hb1.mono (by simp)))
    exact ⟨this.c0, this.c1, this.c2, this.lt⟩
  have T1 := Lib.hid (show TC w1 (w.heap.size + 1) nilTb by
    have := (TC.nil (w.alloc (.cells #[.float .f32 a, .float .f32 b, .float .f32 c] 27)) 47).below hb1
    simpa using this)
  have HB1 := Lib.hid (show Below w.heap.size w w1 from below_step hb1 (((Below.refl _ _).alloc (Nat.le_refl _) _).alloc (by simp) _) (by simp; omega))
  clear hb1
  go_wp2_with fail
  refine (M1.out _).mono ?_
  rintro e w2 ⟨rfl, rfl⟩
  go_wp2_with fail
  refine (L.out _).mono ?_
  rintro e w2 ⟨rfl, rfl⟩
  go_wp2_with fail
  refine (M2.out _).mono ?_
  rintro e w2 ⟨rfl, rfl⟩
  go_wp2_with fail
  refine (HT.out _).mono ?_
  rintro e w2 ⟨rfl, hb2⟩
  obtain ⟨d0, d1, d2, d3, g0, g1, g2, g3, hz⟩ := T1.out.below hb2
  have HB2 := Lib.hid (below_step hb2 HB1.out HB1.out.size)
  simp only [nilTb] at d0 d1 d2 d3
  clear hb2 c0 c1 c2 hl0
  go_wp2_with fail
  refine bodyPost_ret (v := .agg #[.complex .f32 s (Op.negFloat .f32 z), .complex .f32 (Op.negFloat .f32 y) (Op.negFloat .f32 x), .complex .f32 y (Op.negFloat .f32 x), .complex .f32 s z]) (by simp [results, Try.results30, go_sem, d0, d1, d2, d3, g0, g1, g2, g3, hz]) rfl ⟨rfl, ?_⟩
  exact Below.put4 HB2.out (by omega) _ _ _ _

/-- How a call ends that makes a table or panics with a code; what the door makes of it. -/
def endT : Tb ⊕ Int → Ending
  | .inl t => .returned t.v
  | .inr c => panicC c
def resT : Tb ⊕ Int → Value
  | .inl t => .tuple #[t.v, .int .i64 0]
  | .inr c => .tuple #[nilTb.v, .int .i64 c]

theorem resT_form (o : Tb ⊕ Int) : ∃ (t : Tb) (j : Int), resT o = .tuple #[t.v, .int .i64 j] := by
  cases o with
  | inl t => exact ⟨t, 0, rfl⟩
  | inr c => exact ⟨nilTb, c, rfl⟩

def stepE (a b c h : Nat) : Tb ⊕ Int := if finO (qO a b c h) then .inl (stepTb a b c h) else .inr 3

theorem stepWith_any {a b c h : Nat} (ha : Num a) (hb : Num b) (hc : Num c) (hh : Num h) (w : World) :
    Calls Try.prog 30 #[.agg #[.float .f32 a, .float .f32 b, .float .f32 c], .float .f32 h] w fun e w' => e = endT (stepE a b c h) ∧ Below w.heap.size w w' := by
  unfold stepE
  cases H : finO (qO a b c h)
  · exact stepWith_no ha hb hc hh H w
  · obtain ⟨k, kk, sq, q, d, g, f, s, x, y, z, S⟩ := stp_of ha hb hc hh H
    have := stepWith_yes ha hb hc S w
    rw [← stp_tab S] at this
    exact this

theorem stepIn_res (a b c h : Nat) : stepIn a b c h = resT (stepE a b c h) := by
  unfold stepIn stepE
  cases finO (qO a b c h) <;> rfl

end Go.Proofs.Ytaghfffbhgpalaa
