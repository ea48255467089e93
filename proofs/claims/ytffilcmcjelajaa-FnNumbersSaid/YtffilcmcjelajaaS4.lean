/- Walks: the numbers that chapter 1's laws draw. -/
import Derived.Test.YtffilcmcjelajaaS3
namespace Go.Proofs.Ytffilcmcjelajaa
open Go.RowKit

theorem run_nan32 {P : Program} (w : World) (op : BinOp) (t : TypeId) (x y : Nat) (hop : op = .add ∨ op = .sub ∨ op = .mul ∨ op = .quo) (h : floatBits op .f32 x y = none) :
    ∃ b, b < 4294967296 ∧ (binOp op t (.float .f32 x) (.float .f32 y)).run P w = .ok (.float .f32 b) w.drew := by
  refine ⟨(Question.nanBits .f32 x y).cut (w.tape w.drawn (.nanBits .f32 x y)), ?_, ?_⟩
  · generalize w.tape w.drawn (.nanBits .f32 x y) = t
    show (t % 2) * 2 ^ 31 + 0x7f800000 + 1 + (t / 2) % (2 ^ 23 - 1) < 4294967296
    have hz : (t / 2) % (2 ^ 23 - 1) < 2 ^ 23 - 1 := Nat.mod_lt _ (by omega)
    omega
  · unfold floatBits at h
    rcases hop with rfl | rfl | rfl | rfl <;> simp only at h <;> simp [binOp, Op.floatArith, h, Question.forced] <;> rfl

set_option maxHeartbeats 1000000 in
theorem broken_any (W0 : World) (c : Value) (len B : Nat) (x : Nat) (w : World) (hcode : Code W0 c len) (hlen : (len : Int) ≤ 4096) (hs : Src W0 c len B w) (hx : x < 4294967296) :
    Calls Try.prog 21 #[.pointer (some ⟨B, 0, none⟩), .float .f32 x] w (DrawPost W0 c len B) := by
  have HS := Lib.hid hs
  have HCode := Lib.hid hcode
  have HX := Lib.hid hx
  clear hs hcode hx
  have HN := Lib.hid (fun (w : World) (n : Int) (hs : Src W0 c len B w) (h1 : 1 ≤ n) (h2 : n < 2147483648) => next_any W0 c len B n w HCode.out hlen hs h1 h2)
  have HF := Lib.hid (fun w => show Calls Try.prog 31 #[.int .i64 2139095039] w fun e w' => e = .returned (.float .f32 2139095039) ∧ w = w' from float_any 2139095039 w (by omega) (by omega))
  go_enter Try.func21, Try.ntmps21
  go_wp2_with fail
  refine (HN.out _ _ HS.out (by omega) (by omega)).mono ?_
  rintro e w1 ⟨p, rfl, hp0, hp1, hs1, _⟩
  clear HS
  rcases (show p = 0 ∨ 1 ≤ p by omega) with rfl | hp
  · go_wp2_with fail
    refine (HF.out _).mono ?_
    rintro e w2 ⟨rfl, rfl⟩
    go_wp2_with fail
    refine (HN.out _ _ hs1 (by omega) (by omega)).mono ?_
    rintro e w3 ⟨q, rfl, hq0, hq1, hs3, _⟩
    clear hs1
    have HS3 := Lib.hid hs3
    clear hs3
    have hmu : ∀ t w, (binOp .mul t (.float .f32 2139095039) (.float .f32 1073741824)).run Try.prog w = .ok (.float .f32 2139095040) w := fun t w => run_float_arith w .mul t .f32 _ _ _ (by decide +kernel)
    rcases (show q = 0 ∨ q = 1 ∨ q = 2 by omega) with rfl | rfl | rfl
    · go_wp2_with fail
      go_ret
      exact ⟨_, rfl, by decide, HS3.out⟩
    · have hng : ∀ w, (Op.unary .neg (.float .f32 2139095039)).run Try.prog w = .ok (.float .f32 4286578687) w := fun w => neg_word 2139095039 (by decide) w
      have hmn : ∀ t w, (binOp .mul t (.float .f32 4286578687) (.float .f32 1073741824)).run Try.prog w = .ok (.float .f32 4286578688) w := fun t w => run_float_arith w .mul t .f32 _ _ _ (by decide +kernel)
      go_wp2_with fail
      go_ret
      exact ⟨_, rfl, by decide, HS3.out⟩
    · obtain ⟨b, hb, hop⟩ := run_nan32 (P := Try.prog) w3 .sub 24 2139095040 2139095040 (.inr (.inl rfl)) (by decide +kernel)
      have HBd := Lib.hid hb
      clear hb
      go_wp2_with fail
      go_ret
      exact ⟨_, rfl, HBd.out, HS3.out.drewN 1⟩
  · have HS1 := Lib.hid hs1
    clear hs1
    have hne : (p != 0) = true := by simp; omega
    go_wp2_with fail
    go_ret
    exact ⟨_, rfl, HX.out, HS1.out⟩

def DrawnPost (W0 : World) (e : Ending) (w' : World) : Prop := ∃ y : Nat, e = .returned (.float .f32 y) ∧ y < 4294967296 ∧ Below W0.heap.size W0 w'
def DrawnInt (W0 : World) (e : Ending) (w' : World) : Prop := ∃ y : Int, e = .returned (.int .i64 y) ∧ -9223372036854775808 ≤ y ∧ y ≤ 9223372036854775807 ∧ Below W0.heap.size W0 w'
def DrawnTwo (W0 : World) (e : Ending) (w' : World) : Prop := ∃ x y : Nat, e = .returned (.tuple #[.float .f32 x, .float .f32 y]) ∧ x < 4294967296 ∧ y < 4294967296 ∧ Below W0.heap.size W0 w'

set_option maxHeartbeats 400000 in
theorem drawPlaceOf (W0 : World) (c : Value) (len : Nat) (w : World) (hcode : Code W0 c len) (hlen : (len : Int) ≤ 4096) (hold : Below W0.heap.size W0 w) :
    Calls Try.prog 7 #[c] w (DrawnPost W0) := by
  have HCode := Lib.hid hcode
  have HO := Lib.hid hold
  clear hcode hold
  go_enter Try.func7, Try.ntmps7
  go_wp2_with fail
  refine (from_any W0 c len w.heap.size _ HCode.out hlen rfl HO.out).mono ?_
  rintro e w1 ⟨rfl, hs1⟩
  go_wp2_with fail
  refine (number_any W0 c len _ _ HCode.out hlen hs1).mono ?_
  rintro e w2 ⟨x, rfl, hx, _, hs2⟩
  clear hs1
  go_wp2_with fail
  refine (broken_any W0 c len _ _ _ HCode.out hlen hs2 hx).mono ?_
  rintro e w3 ⟨y, rfl, hy, hs3⟩
  have HY := Lib.hid hy
  have HS := Lib.hid hs3
  clear hs2 hx hy hs3
  go_wp2_with fail
  go_ret
  exact ⟨_, rfl, HY.out, HS.out.old⟩

theorem place_fin (x : Nat) (h : fin x = true) : -2139095040 < place x ∧ place x < 2139095040 := by
  have h := of_decide_eq_true h
  unfold place
  split <;> omega

def InI64 (v : Int) : Prop := -9223372036854775808 ≤ v ∧ v ≤ 9223372036854775807

theorem small_in (v : Int) (h1 : -2139095041 < v) (h2 : v < 2139095041) : InI64 v := by unfold InI64; omega

set_option maxHeartbeats 400000 in
theorem drawFloatAt (W0 : World) (c : Value) (len : Nat) (w : World) (hcode : Code W0 c len) (hlen : (len : Int) ≤ 4096) (hold : Below W0.heap.size W0 w) :
    Calls Try.prog 11 #[c] w (DrawnInt W0) := by
  have HCode := Lib.hid hcode
  have HO := Lib.hid hold
  clear hcode hold
  go_enter Try.func11, Try.ntmps11
  go_wp2_with fail
  refine (from_any W0 c len w.heap.size _ HCode.out hlen rfl HO.out).mono ?_
  rintro e w1 ⟨rfl, hs1⟩
  go_wp2_with fail
  refine (next_any W0 c len _ _ _ HCode.out hlen hs1 (by omega) (by omega)).mono ?_
  rintro e w2 ⟨p, rfl, hp0, hp1, hs2, _⟩
  clear hs1
  rcases (show p = 0 ∨ 1 ≤ p by omega) with rfl | hp
  · go_wp2_with fail
    refine (pick_any W0 c len w.heap.size InI64 w2.heap.size 6 _ HCode.out hlen (hs2.alloc _) (by have := hs2.lies; omega) (by decide) (by decide) ?_).mono ?_
    · intro j j0 j1
      rcases (show j = 0 ∨ j = 1 ∨ j = 2 ∨ j = 3 ∨ j = 4 ∨ j = 5 by omega) with rfl | rfl | rfl | rfl | rfl | rfl
      all_goals exact ⟨_, World.cell?_alloc_new .., small_in _ (by omega) (by omega)⟩
    rintro e w3 ⟨v, rfl, hv, hs3, _⟩
    have HV := Lib.hid hv
    have HS := Lib.hid hs3
    clear hs2 hv hs3
    go_wp2_with fail
    go_ret
    exact ⟨_, rfl, HV.out.1, HV.out.2, HS.out.old⟩
  · go_wp2_with fail
    refine (number_any W0 c len _ _ HCode.out hlen hs2).mono ?_
    rintro e w3 ⟨x, rfl, hx, hf, hs3⟩
    clear hs2
    go_wp2_with fail
    refine (bits_fin x _ hx hf).mono ?_
    rintro e w4 ⟨rfl, rfl⟩
    have hb := place_fin x hf
    have HV := Lib.hid (small_in (place x) (by omega) (by omega))
    have HS := Lib.hid hs3
    clear hb hx hf hs3
    go_wp2_with fail
    go_ret
    exact ⟨_, rfl, HV.out.1, HV.out.2, HS.out.old⟩

theorem neg_any (y : Nat) (h : y < 4294967296) : ∃ z : Nat, z < 4294967296 ∧ ∀ w, (Op.unary .neg (.float .f32 y)).run Try.prog w = .ok (.float .f32 z) w :=
  ⟨Op.negFloat .f32 y, Nat.xor_lt_two_pow (n := 32) h (by decide), fun _ => rfl⟩

set_option maxHeartbeats 400000 in
theorem drawRootOf (W0 : World) (c : Value) (len : Nat) (w : World) (hcode : Code W0 c len) (hlen : (len : Int) ≤ 4096) (hold : Below W0.heap.size W0 w) :
    Calls Try.prog 13 #[c] w (DrawnPost W0) := by
  have HCode := Lib.hid hcode
  have HO := Lib.hid hold
  clear hcode hold
  go_enter Try.func13, Try.ntmps13
  go_wp2_with fail
  refine (from_any W0 c len w.heap.size _ HCode.out hlen rfl HO.out).mono ?_
  rintro e w1 ⟨rfl, hs1⟩
  go_wp2_with fail
  refine (number_any W0 c len _ _ HCode.out hlen hs1).mono ?_
  rintro e w2 ⟨x, rfl, hx, _, hs2⟩
  clear hs1
  obtain ⟨z, hz, hneg⟩ := neg_any x hx
  cases hl : (FloatKind.f32.format.order x 0 == some .lt)
  · go_wp2_with fail
    refine (broken_any W0 c len _ _ _ HCode.out hlen hs2 hx).mono ?_
    rintro e w3 ⟨y, rfl, hy, hs3⟩
    have HY := Lib.hid hy
    have HS := Lib.hid hs3
    clear hs2 hx hy hs3 hz
    go_wp2_with fail
    go_ret
    exact ⟨_, rfl, HY.out, HS.out.old⟩
  · go_wp2_with fail
    refine (next_any W0 c len _ _ _ HCode.out hlen hs2 (by omega) (by omega)).mono ?_
    rintro e w3 ⟨p, rfl, hp0, hp1, hs3, _⟩
    clear hs2
    by_cases hp : 0 < p
    · go_wp2_with fail
      refine (broken_any W0 c len _ _ _ HCode.out hlen hs3 hz).mono ?_
      rintro e w4 ⟨y, rfl, hy, hs4⟩
      have HY := Lib.hid hy
      have HS := Lib.hid hs4
      clear hs3 hx hy hs4 hz
      go_wp2_with fail
      go_ret
      exact ⟨_, rfl, HY.out, HS.out.old⟩
    · go_wp2_with fail
      refine (broken_any W0 c len _ _ _ HCode.out hlen hs3 hx).mono ?_
      rintro e w4 ⟨y, rfl, hy, hs4⟩
      have HY := Lib.hid hy
      have HS := Lib.hid hs4
      clear hs3 hx hy hs4 hz
      go_wp2_with fail
      go_ret
      exact ⟨_, rfl, HY.out, HS.out.old⟩

set_option maxHeartbeats 400000 in
theorem drawSteps (W0 : World) (c : Value) (len : Nat) (w : World) (hcode : Code W0 c len) (hlen : (len : Int) ≤ 4096) (hold : Below W0.heap.size W0 w) :
    Calls Try.prog 16 #[c] w (DrawnTwo W0) := by
  have HCode := Lib.hid hcode
  have HO := Lib.hid hold
  clear hcode hold
  go_enter Try.func16, Try.ntmps16
  go_wp2_with fail
  refine (from_any W0 c len w.heap.size _ HCode.out hlen rfl HO.out).mono ?_
  rintro e w1 ⟨rfl, hs1⟩
  go_wp2_with fail
  refine (number_any W0 c len _ _ HCode.out hlen hs1).mono ?_
  rintro e w2 ⟨x, rfl, hx, hf, hs2⟩
  clear hs1
  go_wp2_with fail
  refine (next_any W0 c len _ _ _ HCode.out hlen hs2 (by omega) (by omega)).mono ?_
  rintro e w3 ⟨p, rfl, hp0, hp1, hs3, _⟩
  clear hs2
  rcases (show p = 0 ∨ 1 ≤ p by omega) with rfl | hp
  · go_wp2_with fail
    refine (bits_fin x _ hx hf).mono ?_
    rintro e w4 ⟨rfl, rfl⟩
    obtain ⟨b1, b2⟩ := place_lt x
    generalize place x = pl at *
    go_wp2_with fail
    refine (next_any W0 c len _ _ _ HCode.out hlen hs3 (by omega) (by omega)).mono ?_
    rintro e w5 ⟨q, rfl, hq0, hq1, hs5, _⟩
    clear hs3
    have HX := Lib.hid hx
    have HS := Lib.hid hs5
    clear hx hf hs5
    rcases (show pl + q - 4 < -2139095039 ∨ 2139095039 < pl + q - 4 ∨ (-2139095039 ≤ pl + q - 4 ∧ pl + q - 4 ≤ 2139095039) by omega) with h1 | h1 | ⟨h1, h2⟩
    · have HW := Lib.hid (wordAt_fin (-2139095039) (by omega) (by omega))
      go_wp2_with fail
      refine (float_any _ _ (by omega) (by omega)).mono ?_
      rintro e w6 ⟨rfl, rfl⟩
      go_wp2_with fail
      go_ret2
      exact ⟨_, _, rfl, HX.out, HW.out.1, HS.out.old⟩
    · have HW := Lib.hid (wordAt_fin 2139095039 (by omega) (by omega))
      have h3 : ¬ pl + q - 4 < -2139095039 := by omega
      go_wp2_with fail
      refine (float_any _ _ (by omega) (by omega)).mono ?_
      rintro e w6 ⟨rfl, rfl⟩
      go_wp2_with fail
      go_ret2
      exact ⟨_, _, rfl, HX.out, HW.out.1, HS.out.old⟩
    · have HW := Lib.hid (wordAt_fin (pl + q - 4) (by omega) (by omega))
      have h3 : ¬ pl + q - 4 < -2139095039 := by omega
      have h4 : ¬ 2139095039 < pl + q - 4 := by omega
      go_wp2_with fail
      refine (float_any _ _ (by omega) (by omega)).mono ?_
      rintro e w6 ⟨rfl, rfl⟩
      go_wp2_with fail
      go_ret2
      exact ⟨_, _, rfl, HX.out, HW.out.1, HS.out.old⟩
  · go_wp2_with fail
    refine (broken_any W0 c len _ _ _ HCode.out hlen hs3 hx).mono ?_
    rintro e w4 ⟨y, rfl, hy, hs4⟩
    clear hs3
    go_wp2_with fail
    refine (number_any W0 c len _ _ HCode.out hlen hs4).mono ?_
    rintro e w5 ⟨x2, rfl, hx2, _, hs5⟩
    clear hs4
    go_wp2_with fail
    refine (broken_any W0 c len _ _ _ HCode.out hlen hs5 hx2).mono ?_
    rintro e w6 ⟨y2, rfl, hy2, hs6⟩
    have HY := Lib.hid hy
    have HY2 := Lib.hid hy2
    have HS := Lib.hid hs6
    clear hs5 hx hx2 hy hy2 hs6
    go_wp2_with fail
    go_ret2
    exact ⟨_, _, rfl, HY.out, HY2.out, HS.out.old⟩
end Go.Proofs.Ytffilcmcjelajaa
