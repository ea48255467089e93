/- Tables in a block of their own. Walks: the door of a table: what is made inside, or the code of a panic. -/
import Derived.Test.YtlmhibeimfkpiaaKbh
import Derived.Test.YtlmhibeimfkpiaaTn
import Derived.Test.YtlmhibeimfkpiaaKbb
namespace Go.Proofs.Ytlmhibeimfkpiaa
open Go.RowKit

theorem four (t : Tb) : t.v = .agg #[.complex .f32 t.a.re t.a.im, .complex .f32 t.b.re t.b.im, .complex .f32 t.c.re t.c.im, .complex .f32 t.d.re t.d.im] := rfl

def nilTb : Tb := ⟨⟨0, 0⟩, ⟨0, 0⟩, ⟨0, 0⟩, ⟨0, 0⟩⟩

structure TC (W : World) (B : Nat) (t : Tb) : Prop where
  c0 : W.cell? ⟨B, 0, none⟩ = some (.complex .f32 t.a.re t.a.im)
  c1 : W.cell? ⟨B, 1, none⟩ = some (.complex .f32 t.b.re t.b.im)
  c2 : W.cell? ⟨B, 2, none⟩ = some (.complex .f32 t.c.re t.c.im)
  c3 : W.cell? ⟨B, 3, none⟩ = some (.complex .f32 t.d.re t.d.im)
  f0 : W.frozen? ⟨B, 0, none⟩ = false
  f1 : W.frozen? ⟨B, 1, none⟩ = false
  f2 : W.frozen? ⟨B, 2, none⟩ = false
  f3 : W.frozen? ⟨B, 3, none⟩ = false
  lt : B < W.heap.size

theorem TC.below {W W' : World} {B : Nat} {t : Tb} (h : TC W B t) (hb : Below W.heap.size W W') : TC W' B t :=
  ⟨(hb.cell (p := ⟨B, 0, none⟩) h.lt).trans h.c0, (hb.cell (p := ⟨B, 1, none⟩) h.lt).trans h.c1, (hb.cell (p := ⟨B, 2, none⟩) h.lt).trans h.c2, (hb.cell (p := ⟨B, 3, none⟩) h.lt).trans h.c3,
   (hb.frozen (p := ⟨B, 0, none⟩) h.lt).trans h.f0, (hb.frozen (p := ⟨B, 1, none⟩) h.lt).trans h.f1, (hb.frozen (p := ⟨B, 2, none⟩) h.lt).trans h.f2, (hb.frozen (p := ⟨B, 3, none⟩) h.lt).trans h.f3, Nat.lt_of_lt_of_le h.lt hb.size⟩

theorem TC.alloc {W : World} {B : Nat} {t : Tb} (h : TC W B t) (o : Obj) : TC (W.alloc o) B t := h.below ((Below.refl _ _).alloc (Nat.le_refl _) _)

theorem TC.new (W : World) (T : TypeId) (t : Tb) : TC (W.alloc (.cells #[.complex .f32 t.a.re t.a.im, .complex .f32 t.b.re t.b.im, .complex .f32 t.c.re t.c.im, .complex .f32 t.d.re t.d.im] T)) W.heap.size t :=
  ⟨by simp [go_sem], by simp [go_sem], by simp [go_sem], by simp [go_sem], by simp [go_sem], by simp [go_sem], by simp [go_sem], by simp [go_sem], by simp⟩

theorem TC.nil (W : World) (T : TypeId) : TC (W.alloc (.cells #[.complex .f32 0 0, .complex .f32 0 0, .complex .f32 0 0, .complex .f32 0 0] T)) W.heap.size nilTb := TC.new W T nilTb

theorem TC.put {W : World} {B : Nat} {t : Tb} (h : TC W B t) (u : Tb) :
    TC ((((W.setCell ⟨B, 0, none⟩ (.complex .f32 u.a.re u.a.im)).setCell ⟨B, 1, none⟩ (.complex .f32 u.b.re u.b.im)).setCell ⟨B, 2, none⟩ (.complex .f32 u.c.re u.c.im)).setCell ⟨B, 3, none⟩ (.complex .f32 u.d.re u.d.im)) B u := by
  have o : ∀ (W : World) (i j : Nat) (v : Value), i ≠ j → (W.setCell ⟨B, i, none⟩ v).cell? ⟨B, j, none⟩ = W.cell? ⟨B, j, none⟩ := fun W i j v hij => World.cell?_setCell_other W ⟨B, i, none⟩ ⟨B, j, none⟩ v (by intro e; injection e with _ e _; exact hij e)
  have s : ∀ (W : World) (i : Nat) (v : Value) {x : Value}, W.cell? ⟨B, i, none⟩ = some x → (W.setCell ⟨B, i, none⟩ v).cell? ⟨B, i, none⟩ = some v := fun W i v x hx => World.cell?_setCell_same W ⟨B, i, none⟩ v hx
  refine ⟨?_, ?_, ?_, ?_, by simp [h.f0], by simp [h.f1], by simp [h.f2], by simp [h.f3], by have := h.lt; simpa using this⟩
  · rw [o _ 3 0 _ (by omega), o _ 2 0 _ (by omega), o _ 1 0 _ (by omega)]
    exact s _ 0 _ h.c0
  · rw [o _ 3 1 _ (by omega), o _ 2 1 _ (by omega)]
    exact s _ 1 _ (by rw [o _ 0 1 _ (by omega)]; exact h.c1)
  · rw [o _ 3 2 _ (by omega)]
    exact s _ 2 _ (by rw [o _ 1 2 _ (by omega), o _ 0 2 _ (by omega)]; exact h.c2)
  · exact s _ 3 _ (by rw [o _ 2 3 _ (by omega), o _ 1 3 _ (by omega), o _ 0 3 _ (by omega)]; exact h.c3)

theorem Below.put4 {B : Nat} {a W : World} {b : Nat} (h : Below B a W) (hb : B ≤ b) (x y z v : Value) : Below B a ((((W.setCell ⟨b, 0, none⟩ x).setCell ⟨b, 1, none⟩ y).setCell ⟨b, 2, none⟩ z).setCell ⟨b, 3, none⟩ v) :=
  (((h.setCell hb _).setCell hb _).setCell hb _).setCell hb _

/-- A pulse in a block of its own. -/
structure PC (W : World) (B : Nat) (p : Pu) : Prop where
  c0 : W.cell? ⟨B, 0, none⟩ = some (.int .i64 p.ax)
  c1 : W.cell? ⟨B, 1, none⟩ = some (.int .i64 p.ha)
  c2 : W.cell? ⟨B, 2, none⟩ = some (.bool p.bk)
  lt : B < W.heap.size

theorem PC.below {W W' : World} {B : Nat} {p : Pu} (h : PC W B p) (hb : Below W.heap.size W W') : PC W' B p :=
  ⟨(hb.cell (p := ⟨B, 0, none⟩) h.lt).trans h.c0, (hb.cell (p := ⟨B, 1, none⟩) h.lt).trans h.c1, (hb.cell (p := ⟨B, 2, none⟩) h.lt).trans h.c2, Nat.lt_of_lt_of_le h.lt hb.size⟩

theorem PC.alloc {W : World} {B : Nat} {p : Pu} (h : PC W B p) (o : Obj) : PC (W.alloc o) B p := h.below ((Below.refl _ _).alloc (Nat.le_refl _) _)

theorem PC.new (W : World) (T : TypeId) (p : Pu) : PC (W.alloc (.cells #[.int .i64 p.ax, .int .i64 p.ha, .bool p.bk] T)) W.heap.size p :=
  ⟨by simp [go_sem], by simp [go_sem], by simp [go_sem], by simp⟩

end Go.Proofs.Ytlmhibeimfkpiaa

namespace Go.Proofs.Ytlmhibeimfkpiaa
open Go.RowKit

set_option maxHeartbeats 1000000 in
theorem mustT_no (t : Tb) (c : Int) (hc : c ≠ 0) (w : World) : Calls Try.prog 76 #[t.v, .int .i64 c] w fun e w' => e = panicC c ∧ Below w.heap.size w w' := by
  have hn : (c != 0) = true := by simp [hc]
  unfold panicC
  rw [four]
  go_enter Try.func76, Try.ntmps76
  go_wp2
  refine ⟨rfl, rfl, ?_⟩
  all_goals repeat first
    | exact Below.refl _ _
    | refine Below.setCell ?_ ?_ _
    | refine Below.alloc ?_ ?_ _
  all_goals first | omega | (simp; done) | (simp; omega)

set_option maxHeartbeats 1000000 in
theorem mustT_yes (t : Tb) (w : World) : Calls Try.prog 76 #[t.v, .int .i64 0] w fun e w' => e = .returned t.v ∧ Below w.heap.size w w' := by
  rw [four]
  go_enter Try.func76, Try.ntmps76
  go_wp2
  refine bodyPost_ret (v := .agg #[.complex .f32 t.a.re t.a.im, .complex .f32 t.b.re t.b.im, .complex .f32 t.c.re t.c.im, .complex .f32 t.d.re t.d.im]) (by simp [results, Try.results76, go_sem]) rfl ⟨rfl, ?_⟩
  all_goals repeat first
    | exact Below.refl _ _
    | refine Below.setCell ?_ ?_ _
    | refine Below.alloc ?_ ?_ _
  all_goals first | omega | (simp; done) | (simp; omega)

set_option maxRecDepth 100000 in
theorem caughtT_idle (p : Addr) (w : World) :
    CallsD Try.prog 67 #[.pointer (some p)] .returning w fun e u' w' => e = .returned (.tuple #[]) ∧ u' = .returning ∧ w' = w := by
  refine callsD_of_wpS Try.func67 rfl fun c₀ cs hu => ?_
  apply wpS_seq
  apply wpS_region
  simp [wpOpsS, go_sem, recoverD, hu, assert_nil, assert_code, Try.ntmps67, Exit.thenS]
  apply wpS_seq
  apply wpS_region
  simp [wpOpsS, go_sem, Exit.thenS]
  refine wpS_cond (t := false) (by simp [Act.eval, Array.replicate]) ?_
  simp only [Bool.false_eq_true, if_false]
  refine wpS_of_wp (wp_skip ?_)
  cases c₀
  simp_all [bodyPostS, results, Try.results67]

set_option maxRecDepth 100000 in
theorem caughtT_panic (p : Addr) (c x : Int) (older : List PanicEntry) (w : World) (hc : w.cell? p = some (.int .i64 x)) (hz : w.frozen? p = false) :
    CallsD Try.prog 67 #[.pointer (some p)] (.panicking ({ v := .iface 81 (.int .i64 c), recovered := false } :: older)) w fun e u' w' =>
      e = .returned (.tuple #[]) ∧ u' = .panicking ({ v := .iface 81 (.int .i64 c), recovered := true } :: older) ∧ w' = w.setCell p (.int .i64 c) := by
  refine callsD_of_wpS Try.func67 rfl fun c₀ cs hu => ?_
  apply wpS_seq
  apply wpS_region
  simp [wpOpsS, go_sem, recoverD, hu, assert_nil, assert_code, Try.ntmps67, Exit.thenS]
  apply wpS_seq
  apply wpS_region
  simp [wpOpsS, go_sem, Exit.thenS]
  refine wpS_cond (t := true) (by simp [Act.eval, Array.replicate]) ?_
  simp only [if_true]
  apply wpS_region
  simp [wpOpsS, go_sem, hc, hz, bodyPostS, results, Try.results67]

set_option maxRecDepth 100000 in
set_option maxHeartbeats 1000000 in
theorem doorT_ret {F : FuncId} {cap : Array Value} {t : Tb} (w : World) (hE : ∀ w, (callFunc F cap).run Try.prog w = .ok (.enter F cap) w) (hF : ∀ w', Below w.heap.size w w' → Calls Try.prog F cap w' fun e w'' => e = .returned t.v ∧ Below w'.heap.size w' w'') :
    Calls Try.prog 43 #[.func (.func F) #[] cap] w fun e w' => e = .returned (.tuple #[t.v, .int .i64 0]) ∧ Below w.heap.size w w' := by
  have HF := Lib.hid hF
  clear hF
  rw [four] at HF ⊢
  have hmf : ∀ (fn : Fn) (first cap : Array Value) (w : World), (Instr.makeFunc fn first cap).run Try.prog w = .ok (.func fn first cap) w := fun _ _ _ _ => rfl
  go_enter_defers Try.func43, Try.ntmps43
  go_wp2_with fail
  refine (HF.out _ (((Below.refl _ _).alloc (Nat.le_refl _) _).alloc (by simp) _)).mono ?_
  rintro e w1 ⟨rfl, hb1⟩
  obtain ⟨hc1, hf1⟩ := bcell hb1
  obtain ⟨x0, x1, x2, x3, k0, k1, k2, k3, hlt⟩ := ((TC.new w 33 nilTb).alloc (.cells #[.int .i64 3] 2)).below hb1
  simp only [nilTb] at x0 x1 x2 x3
  have hz1 : w.heap.size + 1 < w1.heap.size := by have := hb1.size; simp at this; omega
  have d0 : w1.cell? ⟨w.heap.size + 1, 0, none⟩ = some (.int .i64 3) := by rw [hc1 _ _ (by simp)]; simp [go_sem]
  have g0 : w1.frozen? ⟨w.heap.size + 1, 0, none⟩ = false := by rw [hf1 _ _ (by simp)]; simp [go_sem]
  have HB1 := Lib.hid (below_step hb1 (((Below.refl _ _).alloc (Nat.le_refl _) _).alloc (by simp) _) (by simp; omega))
  clear hb1 hc1 hf1
  go_wp2_with fail
  refine leaves_cons (f := 67) (args := #[.pointer (some ⟨w.heap.size + 1, 0, none⟩)]) (by simp) (by simp [go_sem]) ?_
  refine (caughtT_idle ⟨w.heap.size + 1, 0, none⟩ _).mono ?_
  rintro e u' w'' ⟨rfl, rfl, rfl⟩
  simp [Leaves, settle, results, Try.results43, go_sem, x0, x1, x2, x3, d0, g0, hz1, hlt]
  exact ((((HB1.out.setCell (by simp) _).setCell (by simp) _).setCell (by simp) _).setCell (by simp) _).setCell (by simp) _

set_option maxRecDepth 100000 in
set_option maxHeartbeats 1000000 in
theorem doorT_pan {F : FuncId} {cap : Array Value} {c : Int} (w : World) (hE : ∀ w, (callFunc F cap).run Try.prog w = .ok (.enter F cap) w) (hF : ∀ w', Below w.heap.size w w' → Calls Try.prog F cap w' fun e w'' => e = panicC c ∧ Below w'.heap.size w' w'') :
    Calls Try.prog 43 #[.func (.func F) #[] cap] w fun e w' => e = .returned (.tuple #[nilTb.v, .int .i64 c]) ∧ Below w.heap.size w w' := by
  have HF := Lib.hid hF
  clear hF
  unfold panicC at HF
  rw [four]
  simp only [nilTb]
  have hmf : ∀ (fn : Fn) (first cap : Array Value) (w : World), (Instr.makeFunc fn first cap).run Try.prog w = .ok (.func fn first cap) w := fun _ _ _ _ => rfl
  go_enter_defers Try.func43, Try.ntmps43
  go_wp2_with fail
  refine (HF.out _ (((Below.refl _ _).alloc (Nat.le_refl _) _).alloc (by simp) _)).mono ?_
  rintro e w1 ⟨rfl, hb1⟩
  obtain ⟨hc1, hf1⟩ := bcell hb1
  obtain ⟨x0, x1, x2, x3, k0, k1, k2, k3, hlt⟩ := ((TC.new w 33 nilTb).alloc (.cells #[.int .i64 3] 2)).below hb1
  simp only [nilTb] at x0 x1 x2 x3
  have hz1 : w.heap.size + 1 < w1.heap.size := by have := hb1.size; simp at this; omega
  have d0 : w1.cell? ⟨w.heap.size + 1, 0, none⟩ = some (.int .i64 3) := by rw [hc1 _ _ (by simp)]; simp [go_sem]
  have g0 : w1.frozen? ⟨w.heap.size + 1, 0, none⟩ = false := by rw [hf1 _ _ (by simp)]; simp [go_sem]
  have HB1 := Lib.hid (below_step hb1 (((Below.refl _ _).alloc (Nat.le_refl _) _).alloc (by simp) _) (by simp; omega))
  clear hb1 hc1 hf1
  go_wp2_with fail
  refine leaves_cons (f := 67) (args := #[.pointer (some ⟨w.heap.size + 1, 0, none⟩)]) (by simp) (by simp [go_sem]) ?_
  refine (caughtT_panic ⟨w.heap.size + 1, 0, none⟩ c 3 [] _ d0 g0).mono ?_
  rintro e u' w'' ⟨rfl, rfl, rfl⟩
  simp [Leaves, settle, results, Try.results43, go_sem, x0, x1, x2, x3, d0, g0, hz1, hlt]
  exact HB1.out.setCell (by simp) _

end Go.Proofs.Ytlmhibeimfkpiaa
