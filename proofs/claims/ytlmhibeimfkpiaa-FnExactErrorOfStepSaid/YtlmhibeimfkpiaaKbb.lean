/- Walks: the door: what is made inside, or the code of a panic. Walks: drifts of tables, those of the specification. -/
import Derived.Test.YtlmhibeimfkpiaaKac
import Derived.Test.YtlmhibeimfkpiaaDs
import Derived.Recover
import Derived.Defers
import Derived.Lib.Hide
import Derived.Deep.RegionHeld3
namespace Go.Proofs.Ytlmhibeimfkpiaa
open Go.RowKit

/-- A panic with a code. -/
def panicC (c : Int) : Ending := .panicked [{ v := .iface 81 (.int .i64 c), recovered := false }]

set_option maxHeartbeats 1000000 in
theorem mustF_no (x : Nat) (c : Int) (hc : c ≠ 0) (w : World) : Calls Try.prog 68 #[.float .f32 x, .int .i64 c] w fun e w' => e = panicC c ∧ w = w' := by
  have hn : (c != 0) = true := by simp [hc]
  unfold panicC
  go_enter Try.func68, Try.ntmps68
  go_wp2
  exact ⟨rfl, rfl, rfl⟩

set_option maxHeartbeats 1000000 in
theorem mustF_yes (x : Nat) (w : World) : Calls Try.prog 68 #[.float .f32 x, .int .i64 0] w fun e w' => e = .returned (.float .f32 x) ∧ w = w' := by
  go_enter Try.func68, Try.ntmps68
  go_wp2
  go_ret
  exact ⟨rfl, rfl⟩

theorem assert_nil (w : World) : (Instr.typeAssert .nilIface 20 81 true).run Try.prog w = .ok (.tuple #[.int .i64 0, .bool false]) w := by kernel_rfl

theorem assert_code (c : Int) (w : World) : (Instr.typeAssert (.iface 81 (.int .i64 c)) 20 81 true).run Try.prog w = .ok (.tuple #[.int .i64 c, .bool true]) w := by kernel_rfl

set_option maxRecDepth 100000 in
theorem caughtF_idle (p : Addr) (w : World) :
    CallsD Try.prog 79 #[.pointer (some p)] .returning w fun e u' w' => e = .returned (.tuple #[]) ∧ u' = .returning ∧ w' = w := by
  refine callsD_of_wpS Try.func79 rfl fun c₀ cs hu => ?_
  apply wpS_seq
  apply wpS_region
  simp [wpOpsS, go_sem, recoverD, hu, assert_nil, assert_code, Try.ntmps79, Exit.thenS]
  apply wpS_seq
  apply wpS_region
  simp [wpOpsS, go_sem, Exit.thenS]
  refine wpS_cond (t := false) (by simp [Act.eval, Array.replicate]) ?_
  simp only [Bool.false_eq_true, if_false]
  refine wpS_of_wp (wp_skip ?_)
  cases c₀
  simp_all [bodyPostS, results, Try.results79]

set_option maxRecDepth 100000 in
theorem caughtF_panic (p : Addr) (c x : Int) (older : List PanicEntry) (w : World) (hc : w.cell? p = some (.int .i64 x)) (hz : w.frozen? p = false) :
    CallsD Try.prog 79 #[.pointer (some p)] (.panicking ({ v := .iface 81 (.int .i64 c), recovered := false } :: older)) w fun e u' w' =>
      e = .returned (.tuple #[]) ∧ u' = .panicking ({ v := .iface 81 (.int .i64 c), recovered := true } :: older) ∧ w' = w.setCell p (.int .i64 c) := by
  refine callsD_of_wpS Try.func79 rfl fun c₀ cs hu => ?_
  apply wpS_seq
  apply wpS_region
  simp [wpOpsS, go_sem, recoverD, hu, assert_nil, assert_code, Try.ntmps79, Exit.thenS]
  apply wpS_seq
  apply wpS_region
  simp [wpOpsS, go_sem, Exit.thenS]
  refine wpS_cond (t := true) (by simp [Act.eval, Array.replicate]) ?_
  simp only [if_true]
  apply wpS_region
  simp [wpOpsS, go_sem, hc, hz, bodyPostS, results, Try.results79]

set_option maxRecDepth 100000 in
set_option maxHeartbeats 1000000 in
theorem doorF_ret {F : FuncId} {cap : Array Value} {v : Nat} (w : World) (hE : ∀ w, (callFunc F cap).run Try.prog w = .ok (.enter F cap) w) (hF : ∀ w', Below w.heap.size w w' → Calls Try.prog F cap w' fun e w'' => e = .returned (.float .f32 v) ∧ Below w'.heap.size w' w'') :
    Calls Try.prog 55 #[.func (.func F) #[] cap] w fun e w' => e = .returned (.tuple #[.float .f32 v, .int .i64 0]) ∧ Below w.heap.size w w' := by
  have HF := Lib.hid hF
  clear hF
  have hmf : ∀ (fn : Fn) (first cap : Array Value) (w : World), (Instr.makeFunc fn first cap).run Try.prog w = .ok (.func fn first cap) w := fun _ _ _ _ => rfl
  go_enter_defers Try.func55, Try.ntmps55
  go_wp2_with fail
  refine (HF.out _ ((Below.refl _ _).alloc (Nat.le_refl _) _)).mono ?_
  rintro e w1 ⟨rfl, hb1⟩
  obtain ⟨hc1, hf1⟩ := bcell hb1
  have hz1 : w.heap.size < w1.heap.size := by have := hb1.size; simp at this; omega
  have HB1 := Lib.hid hb1
  clear hb1
  go_wp2_with fail
  refine leaves_cons (f := 79) (args := #[.pointer (some ⟨w.heap.size, 0, none⟩)]) (by simp) (by simp [go_sem]) ?_
  refine (caughtF_idle ⟨w.heap.size, 0, none⟩ _).mono ?_
  rintro e u' w'' ⟨rfl, rfl, rfl⟩
  simp [Leaves, settle, results, Try.results55, go_sem, hc1, hf1, hz1]
  exact (((Below.refl _ _).alloc (Nat.le_refl _) _).trans (HB1.out.mono (by simp))).setCell (by simp) _

set_option maxRecDepth 100000 in
set_option maxHeartbeats 1000000 in
theorem doorF_pan {F : FuncId} {cap : Array Value} {c : Int} (w : World) (hE : ∀ w, (callFunc F cap).run Try.prog w = .ok (.enter F cap) w) (hF : ∀ w', Below w.heap.size w w' → Calls Try.prog F cap w' fun e w'' => e = panicC c ∧ Below w'.heap.size w' w'') :
    Calls Try.prog 55 #[.func (.func F) #[] cap] w fun e w' => e = .returned (.tuple #[.float .f32 0, .int .i64 c]) ∧ Below w.heap.size w w' := by
  have HF := Lib.hid hF
  clear hF
  have hmf : ∀ (fn : Fn) (first cap : Array Value) (w : World), (Instr.makeFunc fn first cap).run Try.prog w = .ok (.func fn first cap) w := fun _ _ _ _ => rfl
  unfold panicC at HF
  go_enter_defers Try.func55, Try.ntmps55
  go_wp2_with fail
  refine (HF.out _ ((Below.refl _ _).alloc (Nat.le_refl _) _)).mono ?_
  rintro e w1 ⟨rfl, hb1⟩
  obtain ⟨hc1, hf1⟩ := bcell hb1
  have hz1 : w.heap.size < w1.heap.size := by have := hb1.size; simp at this; omega
  have d0 : w1.cell? ⟨w.heap.size, 0, none⟩ = some (.int .i64 3) := by rw [hc1 _ _ (by simp)]; simp [go_sem]
  have g0 : w1.frozen? ⟨w.heap.size, 0, none⟩ = false := by rw [hf1 _ _ (by simp)]; simp [go_sem]
  have HB1 := Lib.hid (below_step hb1 ((Below.refl _ _).alloc (Nat.le_refl _) _) (by simp))
  clear hb1 hc1 hf1
  go_wp2_with fail
  refine leaves_cons (f := 79) (args := #[.pointer (some ⟨w.heap.size, 0, none⟩)]) (by simp) (by simp [go_sem]) ?_
  refine (caughtF_panic ⟨w.heap.size, 0, none⟩ c 3 [] _ d0 g0).mono ?_
  rintro e u' w'' ⟨rfl, rfl, rfl⟩
  simp [Leaves, settle, results, Try.results55, go_sem, d0, g0, hz1]
  exact HB1.out.setCell (by simp) _

end Go.Proofs.Ytlmhibeimfkpiaa

namespace Go.Proofs.Ytlmhibeimfkpiaa
open Go.RowKit

/-- A table in a new variable. -/
def Tab1 (w wr : World) (v0 v1 v2 v3 : Value) : Prop := Below (w.heap.size + 1) (w.alloc (.cells #[v0, v1, v2, v3] 33)) wr

theorem tab1_call {w wr w' : World} {v0 v1 v2 v3 : Value} {n : Nat} (h : Below (wr.drewN n).heap.size (wr.drewN n) w') (h1 : Tab1 w wr v0 v1 v2 v3) : Tab1 w w' v0 v1 v2 v3 := below_call h h1 (by simp)

theorem tab1_call0 {w wr w' : World} {v0 v1 v2 v3 : Value} (h : Below wr.heap.size wr w') (h1 : Tab1 w wr v0 v1 v2 v3) : Tab1 w w' v0 v1 v2 v3 := tab1_call (n := 0) h h1

theorem tab1_cells {w wr : World} {v0 v1 v2 v3 : Value} (hb : Tab1 w wr v0 v1 v2 v3) :
    wr.cell? ⟨w.heap.size, 0, none⟩ = some v0 ∧ wr.cell? ⟨w.heap.size, 1, none⟩ = some v1 ∧ wr.cell? ⟨w.heap.size, 2, none⟩ = some v2 ∧ wr.cell? ⟨w.heap.size, 3, none⟩ = some v3 := by
  have h : ∀ b o, b < w.heap.size + 1 → wr.cell? ⟨b, o, none⟩ = _ := fun b o h => Below.cell hb (p := ⟨b, o, none⟩) h
  refine ⟨?_, ?_, ?_, ?_⟩
  all_goals
    rw [h _ _ (by omega)]
    simp [go_sem]

theorem tab1_below {w wr : World} {v0 v1 v2 v3 : Value} (hb : Tab1 w wr v0 v1 v2 v3) : Below w.heap.size w wr := ((Below.refl _ _).alloc (Nat.le_refl _) _).trans (Below.mono hb (by omega))

def one32 : Nat := 1065353216

theorem one_vl : Vl one32 (2 ^ 149) ∧ Bd 0 one32 := by
  have e : one32 = S false 1 0 := by decide +kernel
  refine ⟨⟨false, 1, 0, e, fitS_pow 0 (by omega) (by omega), by decide +kernel⟩, ?_⟩
  rw [e]
  exact bd_mk false 1 0 0 0 (by omega) (by omega) (by omega) (by omega) (by decide)

/-- The greater one. -/
def gtW (x y : Nat) : Bool := FloatKind.f32.format.order x y == some .gt
def pick (o x : Nat) : Nat := if gtW x o then x else o

/-- The drift, as the specification reckons it. -/
def driftS (t : Tb) : Nat := pick (pick (sizeS (sm (qOf t) (Op.negFloat .f32 one32))) (sizeS (sm (detS t).re (Op.negFloat .f32 one32)))) (sizeS (detS t).im)

set_option maxRecDepth 100000 in
set_option maxHeartbeats 1000000 in
theorem specDrift_ok {t : Tb} {k : Nat} (h : TB k t) (hk : 2 * k + 3 ≤ 127) (w : World) :
    Calls Try.prog 60 #[t.v] w fun e w' => e = .returned (.tuple #[.float .f32 (driftS t), .int .i64 0]) ∧ Below w.heap.size w w' := by
  have I := Lib.hid (fun w => l03Is_ok (tb_tf h (by omega)) w)
  have N := Lib.hid (fun w => l03Norm_ok h (by omega) w)
  have D := Lib.hid (fun w => l03Determinant_ok h (by omega) w)
  have qb := (q_bd h (by omega)).2
  have db := det_bd h (by omega)
  have F := Lib.hid (fun w => fine_yes (qOf t) w qb.1 (bd_fin qb (by omega)))
  have W := Lib.hid (fun w => l01Whole_ok (cb_cf db (by omega)) w)
  have s1 : ∀ T w', (binOp .sub T (.float .f32 (qOf t)) (.float .f32 1065353216)).run Try.prog w' = .ok (.float .f32 (sm (qOf t) (Op.negFloat .f32 one32))) w' := fun T w' => run_float_arith w' .sub T .f32 _ _ _ (bd_less qb (bd_mono one_vl.2 (by omega)) (by omega)).1
  have s2 : ∀ T w', (binOp .sub T (.float .f32 (detS t).re) (.float .f32 1065353216)).run Try.prog w' = .ok (.float .f32 (sm (detS t).re (Op.negFloat .f32 one32))) w' := fun T w' => run_float_arith w' .sub T .f32 _ _ _ (bd_less db.1 (bd_mono one_vl.2 (by omega)) (by omega)).1
  have Z1 := Lib.hid (fun w => l03Size_any (sm (qOf t) (Op.negFloat .f32 one32)) w)
  have Z2 := Lib.hid (fun w => l03Size_any (sm (detS t).re (Op.negFloat .f32 one32)) w)
  have Z3 := Lib.hid (fun w => l03Size_any (detS t).im w)
  clear qb db h
  unfold driftS
  generalize sizeS (sm (qOf t) (Op.negFloat .f32 one32)) = o at *
  generalize sizeS (sm (detS t).re (Op.negFloat .f32 one32)) = x at *
  generalize sizeS (detS t).im = y at *
  generalize sm (qOf t) (Op.negFloat .f32 one32) = x1 at *
  generalize sm (detS t).re (Op.negFloat .f32 one32) = x2 at *
  generalize qOf t = q at *
  generalize detS t = d at *
  obtain ⟨⟨a0, a1⟩, ⟨a2, a3⟩, ⟨a4, a5⟩, ⟨a6, a7⟩⟩ := t
  obtain ⟨dr, di⟩ := d
  unfold Tb.v at *
  simp only [Cx.v] at *
  obtain ⟨r, hr, hcase⟩ : ∃ r, pick (pick o x) y = r ∧ ((FloatKind.f32.format.order x o == some .gt) = false ∧ (FloatKind.f32.format.order y o == some .gt) = false ∧ r = o ∨
      (FloatKind.f32.format.order x o == some .gt) = false ∧ (FloatKind.f32.format.order y o == some .gt) = true ∧ r = y ∨
      (FloatKind.f32.format.order x o == some .gt) = true ∧ (FloatKind.f32.format.order y x == some .gt) = false ∧ r = x ∨
      (FloatKind.f32.format.order x o == some .gt) = true ∧ (FloatKind.f32.format.order y x == some .gt) = true ∧ r = y) := by
    refine ⟨_, rfl, ?_⟩
    unfold pick
    cases h1 : gtW x o
    · simp only [Bool.false_eq_true, if_false]
      cases h2 : gtW y o
      · exact .inl ⟨h1, h2, by simp⟩
      · exact .inr (.inl ⟨h1, h2, by simp⟩)
    · simp only [if_true]
      cases h2 : gtW y x
      · exact .inr (.inr (.inl ⟨h1, h2, by simp⟩))
      · exact .inr (.inr (.inr ⟨h1, h2, by simp⟩))
  rw [hr]
  clear hr
  rcases hcase with ⟨g1, g2, rfl⟩ | ⟨g1, g2, rfl⟩ | ⟨g1, g2, rfl⟩ | ⟨g1, g2, rfl⟩
  all_goals
    go_enter Try.func60, Try.ntmps60
    go_wp2_with fail
    refine (I.out _).mono ?_
    rintro e w1 ⟨rfl, hb1⟩
    have hb2 : Tab1 w w1 (.complex .f32 a0 a1) (.complex .f32 a2 a3) (.complex .f32 a4 a5) (.complex .f32 a6 a7) := tab1_call0 hb1 (Below.refl _ _)
    obtain ⟨c0, c1, c2, c3⟩ := tab1_cells hb2
    have HB := Lib.hid hb2
    clear hb1 hb2
    go_wp2_with fail
    go_region_held3 (fun w' => w'.cell? ⟨w.heap.size, 0, none⟩ = some (.complex .f32 a0 a1) ∧ w'.cell? ⟨w.heap.size, 1, none⟩ = some (.complex .f32 a2 a3) ∧ w'.cell? ⟨w.heap.size, 2, none⟩ = some (.complex .f32 a4 a5) ∧ w'.cell? ⟨w.heap.size, 3, none⟩ = some (.complex .f32 a6 a7)) (go_keep)
      ((first
        | (go_at_call 82; refine (N.out _).mono ?_; rintro e w' ⟨rfl, hb⟩; have HC := Lib.hid (by first | exact tab1_call0 hb HC.out | exact tab1_call hb HC.out | exact tab1_call0 hb HB.out | exact tab1_call hb HB.out); clear hb; obtain ⟨d0, d1, d2, d3⟩ := tab1_cells HC.out)
        | (go_at_call 83; refine (D.out _).mono ?_; rintro e w' ⟨rfl, hb⟩; have HC := Lib.hid (by first | exact tab1_call0 hb HC.out | exact tab1_call hb HC.out | exact tab1_call0 hb HB.out | exact tab1_call hb HB.out); clear hb; obtain ⟨d0, d1, d2, d3⟩ := tab1_cells HC.out)))
    all_goals
      have HD := Lib.hid (tab1_below HC.out)
      clear HC HB
      go_wp2_with fail
      refine (F.out _).mono ?_
      rintro e w3 ⟨rfl, rfl⟩
      go_wp2_with fail
      refine (W.out _).mono ?_
      rintro e w4 ⟨rfl, rfl⟩
      go_wp2_with (first | simp only [s1, s2] | fail)
      refine (Z1.out _).mono ?_
      rintro e w5 ⟨rfl, rfl⟩
      go_wp2_with (first | simp only [s1, s2] | fail)
      refine (Z2.out _).mono ?_
      rintro e w5 ⟨rfl, rfl⟩
      go_wp2_with (first | simp only [s1, s2] | fail)
      refine (Z3.out _).mono ?_
      rintro e w5 ⟨rfl, rfl⟩
      go_wp2_with (first | simp only [s1, s2] | fail)
      go_ret2
      exact ⟨rfl, by first | exact HD.out | exact below_drewN HD.out _⟩

end Go.Proofs.Ytlmhibeimfkpiaa
