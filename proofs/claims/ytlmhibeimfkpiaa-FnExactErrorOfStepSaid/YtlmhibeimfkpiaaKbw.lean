/- Walks: the distance of tables, as the specification has it. Walks: the error of a step, as the specification has it. -/
import Derived.Test.YtlmhibeimfkpiaaKbb
import Derived.Test.YtlmhibeimfkpiaaG5
import Derived.LoopTactic
namespace Go.Proofs.Ytlmhibeimfkpiaa
open Go.RowKit

/-- A difference. -/
def subC (z w : Cx) : Cx := ⟨sm z.re (Op.negFloat .f32 w.re), sm z.im (Op.negFloat .f32 w.im)⟩

/-- The greater one of a number and the sizes of both parts. -/
def pickC (o : Nat) (d : Cx) : Nat := pick (pick o (sizeS d.re)) (sizeS d.im)

def distS (s t : Tb) : Nat := pickC (pickC (pickC (pickC 0 (subC s.a t.a)) (subC s.b t.b)) (subC s.c t.c)) (subC s.d t.d)

theorem subC_cb {z w : Cx} {k : Nat} (hz : CB k z) (hw : CB k w) (hk : k + 1 ≤ 127) : CB ((k + 1 : Nat) : Int) (subC z w) := ⟨(bd_less hz.1 hw.1 hk).2, (bd_less hz.2 hw.2 hk).2⟩

set_option maxRecDepth 100000 in
set_option maxHeartbeats 2000000 in
theorem l05Distance_ok {s t : Tb} {k : Nat} (hs : TB k s) (ht : TB k t) (hk : k + 1 ≤ 127) (w : World) :
    Calls Try.prog 78 #[s.v, t.v] w fun e w' => e = .returned (.tuple #[.float .f32 (distS s t), .bool true]) ∧ Below w.heap.size w w' := by
  have L0 := Lib.hid (fun w => l01Less_ok hs.1 ht.1 hk w)
  have L1 := Lib.hid (fun w => l01Less_ok hs.2.1 ht.2.1 hk w)
  have L2 := Lib.hid (fun w => l01Less_ok hs.2.2.1 ht.2.2.1 hk w)
  have L3 := Lib.hid (fun w => l01Less_ok hs.2.2.2 ht.2.2.2 hk w)
  have W0 := Lib.hid (fun w => l01Whole_ok (cb_cf (subC_cb hs.1 ht.1 hk) (by omega)) w)
  have W1 := Lib.hid (fun w => l01Whole_ok (cb_cf (subC_cb hs.2.1 ht.2.1 hk) (by omega)) w)
  have W2 := Lib.hid (fun w => l01Whole_ok (cb_cf (subC_cb hs.2.2.1 ht.2.2.1 hk) (by omega)) w)
  have W3 := Lib.hid (fun w => l01Whole_ok (cb_cf (subC_cb hs.2.2.2 ht.2.2.2 hk) (by omega)) w)
  have Z := Lib.hid (fun (x : Nat) w => l03Size_any x w)
  clear hs ht
  unfold distS
  unfold subC Tb.v Cx.v at *
  generalize sm s.a.re (Op.negFloat .f32 t.a.re) = p0 at *
  generalize sm s.a.im (Op.negFloat .f32 t.a.im) = q0 at *
  generalize sm s.b.re (Op.negFloat .f32 t.b.re) = p1 at *
  generalize sm s.b.im (Op.negFloat .f32 t.b.im) = q1 at *
  generalize sm s.c.re (Op.negFloat .f32 t.c.re) = p2 at *
  generalize sm s.c.im (Op.negFloat .f32 t.c.im) = q2 at *
  generalize sm s.d.re (Op.negFloat .f32 t.d.re) = p3 at *
  generalize sm s.d.im (Op.negFloat .f32 t.d.im) = q3 at *
  obtain ⟨⟨a0, a1⟩, ⟨a2, a3⟩, ⟨a4, a5⟩, ⟨a6, a7⟩⟩ := s
  obtain ⟨⟨b0, b1⟩, ⟨b2, b3⟩, ⟨b4, b5⟩, ⟨b6, b7⟩⟩ := t
  simp only at *
  obtain ⟨r1, e1⟩ : ∃ r, pickC 0 ⟨p0, q0⟩ = r := ⟨_, rfl⟩
  obtain ⟨r2, e2⟩ : ∃ r, pickC r1 ⟨p1, q1⟩ = r := ⟨_, rfl⟩
  obtain ⟨r3, e3⟩ : ∃ r, pickC r2 ⟨p2, q2⟩ = r := ⟨_, rfl⟩
  obtain ⟨r4, e4⟩ : ∃ r, pickC r3 ⟨p3, q3⟩ = r := ⟨_, rfl⟩
  rw [e1, e2, e3, e4]
  have E1 := Lib.hid e1
  have E2 := Lib.hid e2
  have E3 := Lib.hid e3
  have E4 := Lib.hid e4
  clear e1 e2 e3 e4 hk
  go_enter Try.func78, Try.ntmps78
  go_wp2_with fail
  generalize hW0 : (w.alloc (.cells #[.complex .f32 a0 a1, .complex .f32 a2 a3, .complex .f32 a4 a5, .complex .f32 a6 a7] 33)).alloc (.cells #[.complex .f32 b0 b1, .complex .f32 b2 b3, .complex .f32 b4 b5, .complex .f32 b6 b7] 33) = U
  have c0 : U.cell? ⟨w.heap.size, 0, none⟩ = some (.complex .f32 a0 a1) := by subst hW0; simp [go_sem]
  have c1 : U.cell? ⟨w.heap.size, 1, none⟩ = some (.complex .f32 a2 a3) := by subst hW0; simp [go_sem]
  have c2 : U.cell? ⟨w.heap.size, 2, none⟩ = some (.complex .f32 a4 a5) := by subst hW0; simp [go_sem]
  have c3 : U.cell? ⟨w.heap.size, 3, none⟩ = some (.complex .f32 a6 a7) := by subst hW0; simp [go_sem]
  have k0 : U.cell? ⟨w.heap.size + 1, 0, none⟩ = some (.complex .f32 b0 b1) := by subst hW0; simp [go_sem]
  have k1 : U.cell? ⟨w.heap.size + 1, 1, none⟩ = some (.complex .f32 b2 b3) := by subst hW0; simp [go_sem]
  have k2 : U.cell? ⟨w.heap.size + 1, 2, none⟩ = some (.complex .f32 b4 b5) := by subst hW0; simp [go_sem]
  have k3 : U.cell? ⟨w.heap.size + 1, 3, none⟩ = some (.complex .f32 b6 b7) := by subst hW0; simp [go_sem]
  have HB := Lib.hid (show Below w.heap.size w U by subst hW0; exact ((Below.refl _ _).alloc (Nat.le_refl _) _).alloc (by simp) _)
  clear hW0
  go_loopw [6, 7] (fun o i wr => ∃ n, wr = U.drewN n ∧ (i = .int .i64 0 ∧ o = .float .f32 0 ∨ i = .int .i64 1 ∧ o = .float .f32 r2 ∨ i = .int .i64 2 ∧ o = .float .f32 r4)) (fun _ i _ => 2 - (intOf i).toNat)
  case atStart => exact ⟨0, rfl, .inl ⟨rfl, rfl⟩⟩
  case round =>
    obtain ⟨n, rfl, ⟨rfl, rfl⟩ | ⟨rfl, rfl⟩ | ⟨rfl, rfl⟩⟩ := hrel
    · go_wp2_with fail
      go_loopw [6, 8] (fun o j wr => ∃ n, wr = U.drewN n ∧ (j = .int .i64 0 ∧ o = .float .f32 0 ∨ j = .int .i64 1 ∧ o = .float .f32 r1 ∨ j = .int .i64 2 ∧ o = .float .f32 r2)) (fun _ j _ => 2 - (intOf j).toNat)
      case atStart => exact ⟨n, rfl, .inl ⟨rfl, rfl⟩⟩
      case round =>
        clear n
        obtain ⟨n, rfl, ⟨rfl, rfl⟩ | ⟨rfl, rfl⟩ | ⟨rfl, rfl⟩⟩ := hrel
        · go_wp2_with fail
          go_region_held3 (fun w' => w'.cell? ⟨w.heap.size, 0, none⟩ = some (.complex .f32 a0 a1) ∧ w'.cell? ⟨w.heap.size + 1, 0, none⟩ = some (.complex .f32 b0 b1)) (go_keep)
            ((go_at_call 92; refine (L0.out _).mono ?_; rintro e w' ⟨rfl, rfl⟩))
          go_wp2_with fail
          refine (W0.out _).mono ?_
          rintro e w' ⟨rfl, rfl⟩
          go_wp2_with fail
          refine (Z.out _ _).mono ?_
          rintro e w' ⟨rfl, rfl⟩
          go_wp2_with fail
          refine (Z.out _ _).mono ?_
          rintro e w' ⟨rfl, rfl⟩
          go_wp2_with fail
          all_goals go_roundw
          all_goals first
            | exact ⟨_, rfl, .inr (.inl ⟨by go_num, by rw [← E1.out]; simp [pickC, pick, gtW, *]⟩)⟩
            | simp [intOf]
        · go_wp2_with fail
          go_region_held3 (fun w' => w'.cell? ⟨w.heap.size, 1, none⟩ = some (.complex .f32 a2 a3) ∧ w'.cell? ⟨w.heap.size + 1, 1, none⟩ = some (.complex .f32 b2 b3)) (go_keep)
            ((go_at_call 92; refine (L1.out _).mono ?_; rintro e w' ⟨rfl, rfl⟩))
          go_wp2_with fail
          refine (W1.out _).mono ?_
          rintro e w' ⟨rfl, rfl⟩
          go_wp2_with fail
          refine (Z.out _ _).mono ?_
          rintro e w' ⟨rfl, rfl⟩
          go_wp2_with fail
          refine (Z.out _ _).mono ?_
          rintro e w' ⟨rfl, rfl⟩
          go_wp2_with fail
          all_goals go_roundw
          all_goals first
            | exact ⟨_, rfl, .inr (.inr (⟨by go_num, by rw [← E2.out]; simp [pickC, pick, gtW, *]⟩))⟩
            | simp [intOf]
        · go_wp2_with fail
          go_roundw
          case rel => exact ⟨_, rfl, .inr (.inl ⟨by go_num, rfl⟩)⟩
          case measure => simp [intOf]
    · go_wp2_with fail
      go_loopw [6, 8] (fun o j wr => ∃ n, wr = U.drewN n ∧ (j = .int .i64 0 ∧ o = .float .f32 r2 ∨ j = .int .i64 1 ∧ o = .float .f32 r3 ∨ j = .int .i64 2 ∧ o = .float .f32 r4)) (fun _ j _ => 2 - (intOf j).toNat)
      case atStart => exact ⟨n, rfl, .inl ⟨rfl, rfl⟩⟩
      case round =>
        clear n
        obtain ⟨n, rfl, ⟨rfl, rfl⟩ | ⟨rfl, rfl⟩ | ⟨rfl, rfl⟩⟩ := hrel
        · go_wp2_with fail
          go_region_held3 (fun w' => w'.cell? ⟨w.heap.size, 2, none⟩ = some (.complex .f32 a4 a5) ∧ w'.cell? ⟨w.heap.size + 1, 2, none⟩ = some (.complex .f32 b4 b5)) (go_keep)
            ((go_at_call 92; refine (L2.out _).mono ?_; rintro e w' ⟨rfl, rfl⟩))
          go_wp2_with fail
          refine (W2.out _).mono ?_
          rintro e w' ⟨rfl, rfl⟩
          go_wp2_with fail
          refine (Z.out _ _).mono ?_
          rintro e w' ⟨rfl, rfl⟩
          go_wp2_with fail
          refine (Z.out _ _).mono ?_
          rintro e w' ⟨rfl, rfl⟩
          go_wp2_with fail
          all_goals go_roundw
          all_goals first
            | exact ⟨_, rfl, .inr (.inl ⟨by go_num, by rw [← E3.out]; simp [pickC, pick, gtW, *]⟩)⟩
            | simp [intOf]
        · go_wp2_with fail
          go_region_held3 (fun w' => w'.cell? ⟨w.heap.size, 3, none⟩ = some (.complex .f32 a6 a7) ∧ w'.cell? ⟨w.heap.size + 1, 3, none⟩ = some (.complex .f32 b6 b7)) (go_keep)
            ((go_at_call 92; refine (L3.out _).mono ?_; rintro e w' ⟨rfl, rfl⟩))
          go_wp2_with fail
          refine (W3.out _).mono ?_
          rintro e w' ⟨rfl, rfl⟩
          go_wp2_with fail
          refine (Z.out _ _).mono ?_
          rintro e w' ⟨rfl, rfl⟩
          go_wp2_with fail
          refine (Z.out _ _).mono ?_
          rintro e w' ⟨rfl, rfl⟩
          go_wp2_with fail
          all_goals go_roundw
          all_goals first
            | exact ⟨_, rfl, .inr (.inr (⟨by go_num, by rw [← E4.out]; simp [pickC, pick, gtW, *]⟩))⟩
            | simp [intOf]
        · go_wp2_with fail
          go_roundw
          case rel => exact ⟨_, rfl, .inr (.inr ⟨by go_num, rfl⟩)⟩
          case measure => simp [intOf]
    · go_wp2_with fail
      exact bodyPost_ret (v := .tuple #[.float .f32 r4, .bool true]) (by simp [results, Try.results78, go_sem]) rfl ⟨rfl, below_drewN HB.out _⟩

end Go.Proofs.Ytlmhibeimfkpiaa

namespace Go.Proofs.Ytlmhibeimfkpiaa
open Go.RowKit

theorem pick_bd {k : Int} {o x : Nat} (ho : Bd k o) (hx : Bd k x) : Bd k (pick o x) := by
  unfold pick; split
  · exact hx
  · exact ho

theorem sizeS_bd {k : Int} {x : Nat} (hx : Bd k x) : Bd k (sizeS x) := by
  unfold sizeS; split
  · exact bd_neg hx
  · exact hx

theorem pickC_bd {k : Int} {o : Nat} {d : Cx} (ho : Bd k o) (hd : CB k d) : Bd k (pickC o d) := pick_bd (pick_bd ho (sizeS_bd hd.1)) (sizeS_bd hd.2)

theorem dist_bd {s t : Tb} {k : Nat} (hs : TB k s) (ht : TB k t) (hk : k + 1 ≤ 127) : Bd ((k + 1 : Nat) : Int) (distS s t) :=
  pickC_bd (pickC_bd (pickC_bd (pickC_bd (bd_mono bd_null.1 (by omega)) (subC_cb hs.1 ht.1 hk)) (subC_cb hs.2.1 ht.2.1 hk)) (subC_cb hs.2.2.1 ht.2.2.1 hk)) (subC_cb hs.2.2.2 ht.2.2.2 hk)

theorem tb_mono {j k : Int} {t : Tb} (h : TB j t) (hk : j ≤ k) : TB k t := ⟨⟨bd_mono h.1.1 hk, bd_mono h.1.2 hk⟩, ⟨bd_mono h.2.1.1 hk, bd_mono h.2.1.2 hk⟩, ⟨bd_mono h.2.2.1.1 hk, bd_mono h.2.2.1.2 hk⟩, ⟨bd_mono h.2.2.2.1 hk, bd_mono h.2.2.2.2 hk⟩⟩

/-- The error of a step of numbers: whether there is one, and which. -/
def errOk (a b c h : Nat) : Bool := finO (qO a b c h) && finO (qO a b c (hN h))

def errN (a b c h : Nat) : Nat := distS (stepTb a b c h) ((stepTb a b c (hN h)).mul (stepTb a b c (hN h)))

def errIn (a b c h : Nat) : Value := if errOk a b c h then .tuple #[.float .f32 (errN a b c h), .int .i64 0] else .tuple #[.float .f32 0, .int .i64 3]

/-- What ErrorOfStep answers. -/
def errRes (a b c h : Nat) : Value := if (fin a && fin b && fin c) && fin h then errIn a b c h else .tuple #[.float .f32 0, .int .i64 1]

theorem errN_bd {a b c h : Nat} (ha : Num a) (hb : Num b) (hc : Num c) (hh : Num h) (H : errOk a b c h = true) : Bd 15 (errN a b c h) ∧ MulOk (stepTb a b c (hN h)) (stepTb a b c (hN h)) ∧ TB ((14 : Nat) : Int) (stepTb a b c h) ∧ TB ((14 : Nat) : Int) ((stepTb a b c (hN h)).mul (stepTb a b c (hN h))) := by
  unfold errOk at H
  simp only [Bool.and_eq_true] at H
  have h1 := step_tb ha hb hc hh H.1
  have h2 := step_tb ha hb hc (half_num hh).2 H.2
  obtain ⟨m, t⟩ := mul_any (j := 6) (k := 6) h2 h2 (by omega)
  have h3 : TB ((14 : Nat) : Int) (stepTb a b c h) := tb_mono h1 (by omega)
  exact ⟨dist_bd (k := 14) h3 t (by omega), m, h3, t⟩

theorem errIn_form {a b c h : Nat} (ha : Num a) (hb : Num b) (hc : Num c) (hh : Num h) : ∃ (x : Nat) (j : Int), errIn a b c h = .tuple #[.float .f32 x, .int .i64 j] ∧ x < 4294967296 ∧ fin x = true := by
  unfold errIn
  split
  · rename_i H
    have hb := (errN_bd ha hb hc hh H).1
    exact ⟨_, _, rfl, hb.1, bd_fin hb (by omega)⟩
  · exact ⟨0, 3, rfl, by omega, by decide +kernel⟩

theorem errRes_form {a b c h : Nat} (ha : a < 4294967296) (hb : b < 4294967296) (hc : c < 4294967296) (hh : h < 4294967296) : ∃ (x : Nat) (j : Int), errRes a b c h = .tuple #[.float .f32 x, .int .i64 j] ∧ x < 4294967296 ∧ fin x = true := by
  unfold errRes
  split
  · rename_i H
    obtain ⟨fa, fb, fc, fh⟩ := num_of H
    exact errIn_form ⟨ha, fa⟩ ⟨hb, fb⟩ ⟨hc, fc⟩ ⟨hh, fh⟩
  · exact ⟨0, 1, rfl, by omega, by decide +kernel⟩

set_option maxRecDepth 100000 in
set_option maxHeartbeats 2000000 in
theorem l09Error_any {a b c h : Nat} (ha : Num a) (hb : Num b) (hc : Num c) (hh : Num h) (w : World) :
    Calls Try.prog 54 #[.agg #[.float .f32 a, .float .f32 b, .float .f32 c], .float .f32 h] w fun e w' => e = .returned (errIn a b c h) ∧ Below w.heap.size w w' := by
  obtain ⟨qk, hk⟩ := half_num hh
  have rk : ∀ w, (binOp .quo 22 (.float .f32 h) (.float .f32 1073741824)).run Try.prog w = .ok (.float .f32 (hN h)) w := fun w => run_float_arith w .quo _ .f32 h 1073741824 (hN h) qk
  have HX := Lib.hid (fun w => l09Step_any ha hb hc hh w)
  have HY := Lib.hid (fun w => l09Step_any ha hb hc hk w)
  obtain ⟨X, jx, ex, ox⟩ := stepIn_code ha hb hc hh
  obtain ⟨Y, jy, ey, oy⟩ := stepIn_code ha hb hc hk
  rw [ex] at HX
  rw [ey] at HY
  rw [four] at HX HY
  have HE := errN_bd ha hb hc hh
  unfold errIn
  unfold errOk errN at *
  clear ex ey ha hb hc hh hk qk
  rcases ox with ⟨rfl, fx, rX, tX⟩ | ⟨rfl, fx⟩
  case inr =>
    rw [fx]
    simp only [Bool.false_and, Bool.false_eq_true, if_false]
    clear fx oy HE
    go_enter Try.func54, Try.ntmps54
    go_wp2_with fail
    refine (HX.out _).mono ?_
    rintro e w1 ⟨rfl, hb1⟩
    have HB1 := Lib.hid (below_step hb1 ((Below.refl _ _).alloc (Nat.le_refl _) _) (by simp))
    clear hb1
    go_wp2_with fail
    refine bodyPost_ret (v := .tuple #[.float .f32 0, .int .i64 3]) (by simp [results, Try.results54, go_sem]) rfl ⟨rfl, ?_⟩
    all_goals repeat first
      | exact HB1.out
      | refine Below.alloc ?_ ?_ _
    all_goals first | omega | exact HB1.out.size | (simp; done) | (simp; omega)
  rcases oy with ⟨rfl, fy, rY, tY⟩ | ⟨rfl, fy⟩
  case inr =>
    rw [fx, fy]
    simp only [Bool.and_false, Bool.false_eq_true, if_false]
    clear fx fy HE rX tX
    go_enter Try.func54, Try.ntmps54
    go_wp2_with fail
    refine (HX.out _).mono ?_
    rintro e w1 ⟨rfl, hb1⟩
    obtain ⟨hc1, hf1⟩ := bcell hb1
    have c0 : w1.cell? ⟨w.heap.size, 0, none⟩ = some (.float .f32 a) := by simp [hc1, go_sem]
    have c1 : w1.cell? ⟨w.heap.size, 1, none⟩ = some (.float .f32 b) := by simp [hc1, go_sem]
    have c2 : w1.cell? ⟨w.heap.size, 2, none⟩ = some (.float .f32 c) := by simp [hc1, go_sem]
    have hz0 : w.heap.size < w1.heap.size := by have := hb1.size; simp at this; omega
    have HB1 := Lib.hid (below_step hb1 ((Below.refl _ _).alloc (Nat.le_refl _) _) (by simp))
    clear hb1 hc1 hf1
    go_wp2_with fail
    refine (HY.out _).mono ?_
    rintro e w2 ⟨rfl, hb2⟩
    have HB2 := Lib.hid (below_step hb2 (HB1.out.alloc (by omega) _) (by simp; omega))
    clear hb2
    go_wp2_with fail
    refine bodyPost_ret (v := .tuple #[.float .f32 0, .int .i64 3]) (by simp [results, Try.results54, go_sem]) rfl ⟨rfl, ?_⟩
    all_goals repeat first
      | exact HB2.out
      | refine Below.alloc ?_ ?_ _
    all_goals first | omega | exact HB2.out.size | (simp; done) | (simp; omega)
  rw [fx, fy, ← rX, ← rY]
  rw [fx, fy, ← rX, ← rY] at HE
  simp only [Bool.and_self, if_true]
  obtain ⟨hd, hm, h1, h2⟩ := HE rfl
  have MT := Lib.hid (fun w => l03Times_ok hm w)
  have MI := Lib.hid (fun w => l03Is_ok (tb_tf (k := 14) h2 (by omega)) w)
  have MD := Lib.hid (fun w => l05Distance_ok (k := 14) h1 h2 (by omega) w)
  clear hd hm h1 h2 HE fx fy rX rY tX tY
  generalize distS X (Y.mul Y) = r at *
  generalize Y.mul Y = T at *
  simp only [four] at MT MI MD
  go_enter Try.func54, Try.ntmps54
  go_wp2_with fail
  refine (HX.out _).mono ?_
  rintro e w1 ⟨rfl, hb1⟩
  obtain ⟨hc1, hf1⟩ := bcell hb1
  have c0 : w1.cell? ⟨w.heap.size, 0, none⟩ = some (.float .f32 a) := by simp [hc1, go_sem]
  have c1 : w1.cell? ⟨w.heap.size, 1, none⟩ = some (.float .f32 b) := by simp [hc1, go_sem]
  have c2 : w1.cell? ⟨w.heap.size, 2, none⟩ = some (.float .f32 c) := by simp [hc1, go_sem]
  have hz0 : w.heap.size < w1.heap.size := by have := hb1.size; simp at this; omega
  have HB1 := Lib.hid (below_step hb1 ((Below.refl _ _).alloc (Nat.le_refl _) _) (by simp))
  clear hb1 hc1 hf1
  go_wp2_with fail
  refine (HY.out _).mono ?_
  rintro e w2 ⟨rfl, hb2⟩
  have X2 := Lib.hid ((TC.new w1 33 X).below hb2)
  have HB2 := Lib.hid (below_step hb2 (HB1.out.alloc (by omega) _) (by simp; omega))
  have hz2 : w1.heap.size < w2.heap.size := X2.out.lt
  clear hb2 c0 c1 c2
  obtain ⟨x0, x1, x2, x3, _⟩ := X2.out
  go_wp2_with fail
  refine (MT.out _).mono ?_
  rintro e w3 ⟨rfl, hb3⟩
  have X3 := Lib.hid ((X2.out.alloc _).below hb3)
  have HB3 := Lib.hid (below_step hb3 (HB2.out.alloc (by omega) _) (by simp; omega))
  have hz3 : w1.heap.size < w3.heap.size := X3.out.lt
  clear hb3 x0 x1 x2 x3
  obtain ⟨x0, x1, x2, x3, _⟩ := X3.out
  go_wp2_with fail
  refine (MI.out _).mono ?_
  rintro e w4 ⟨rfl, hb4⟩
  have X4 := Lib.hid ((X3.out.alloc _).below hb4)
  have T4 := Lib.hid ((TC.new w3 33 T).below hb4)
  have HB4 := Lib.hid (below_step hb4 (HB3.out.alloc (by omega) _) (by simp; omega))
  have hz4 : w1.heap.size < w4.heap.size := X4.out.lt
  clear hb4 x0 x1 x2 x3
  obtain ⟨x0, x1, x2, x3, _⟩ := X4.out
  obtain ⟨y0, y1, y2, y3, _⟩ := T4.out
  go_wp2_with fail
  refine (MD.out _).mono ?_
  rintro e w5 ⟨rfl, hb5⟩
  have HB5 := Lib.hid (below_step hb5 HB4.out (by omega))
  clear hb5
  go_wp2_with fail
  refine bodyPost_ret (v := .tuple #[.float .f32 r, .int .i64 0]) (by simp [results, Try.results54, go_sem]) rfl ⟨rfl, HB5.out⟩

end Go.Proofs.Ytlmhibeimfkpiaa
