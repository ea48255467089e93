/- Tables in a block of their own. Walks: HalvedTurn of the program and of the specification. -/
import Derived.Test.YtlglbinalocilaaKax
import Derived.Test.YtlglbinalocilaaTn
import Derived.Test.YtlglbinalocilaaKat
namespace Go.Proofs.Ytlglbinalocilaa
open Go.RowKit

theorem four (t : Tb) : t.v = .agg #[.complex .f32 t.a.re t.a.im, .complex .f32 t.b.re t.b.im, .complex .f32 t.c.re t.c.im, .complex .f32 t.d.re t.d.im] := rfl

def nilTb : Tb := ⟨⟨0, 0⟩, ⟨0, 0⟩, ⟨0, 0⟩, ⟨0, 0⟩⟩

structure TC (W : World) (B : Nat) (t : Tb) : Prop where
  c0 : W.cell? ⟨B, 0, none⟩ = some (.complex .f32 t.a.re t.a.im)
  c1 : W.cell? ⟨B, 1, none⟩ = some (.complex .f32 t.b.re t.b.im)
  c2 : W.cell? ⟨B, 2, none⟩ = some (.complex .f32 t.c.re t.c.im)
  c3 : W.cell? ⟨B, 3, none⟩ = some (.complex .f32 t.d.re t.d.im)
  f0 : W.frozen? ⟨B, 0, none⟩ = false
  f1 : W.frozen? ⟨B, 1, none⟩ = false
  f2 : W.frozen? ⟨B, 2, none⟩ = false
  f3 : W.frozen? ⟨B, 3, none⟩ = false
  lt : B < W.heap.size

theorem TC.below {W W' : World} {B : Nat} {t : Tb} (h : TC W B t) (hb : Below W.heap.size W W') : TC W' B t :=
  ⟨(hb.cell (p := ⟨B, 0, none⟩) h.lt).trans h.c0, (hb.cell (p := ⟨B, 1, none⟩) h.lt).trans h.c1, (hb.cell (p := ⟨B, 2, none⟩) h.lt).trans h.c2, (hb.cell (p := ⟨B, 3, none⟩) h.lt).trans h.c3,
   (hb.frozen (p := ⟨B, 0, none⟩) h.lt).trans h.f0, (hb.frozen (p := ⟨B, 1, none⟩) h.lt).trans h.f1, (hb.frozen (p := ⟨B, 2, none⟩) h.lt).trans h.f2, (hb.frozen (p := ⟨B, 3, none⟩) h.lt).trans h.f3, Nat.lt_of_lt_of_le h.lt hb.size⟩

theorem TC.alloc {W : World} {B : Nat} {t : Tb} (h : TC W B t) (o : Obj) : TC (W.alloc o) B t := h.below ((Below.refl _ _).alloc (Nat.le_refl _) _)

theorem TC.new (W : World) (T : TypeId) (t : Tb) : TC (W.alloc (.cells #[.complex .f32 t.a.re t.a.im, .complex .f32 t.b.re t.b.im, .complex .f32 t.c.re t.c.im, .complex .f32 t.d.re t.d.im] T)) W.heap.size t :=
  ⟨by simp [go_sem], by simp [go_sem], by simp [go_sem], by simp [go_sem], by simp [go_sem], by simp [go_sem], by simp [go_sem], by simp [go_sem], by simp⟩

theorem TC.put {W : World} {B : Nat} {t : Tb} (h : TC W B t) (u : Tb) :
    TC ((((W.setCell ⟨B, 0, none⟩ (.complex .f32 u.a.re u.a.im)).setCell ⟨B, 1, none⟩ (.complex .f32 u.b.re u.b.im)).setCell ⟨B, 2, none⟩ (.complex .f32 u.c.re u.c.im)).setCell ⟨B, 3, none⟩ (.complex .f32 u.d.re u.d.im)) B u := by
  have o : ∀ (W : World) (i j : Nat) (v : Value), i ≠ j → (W.setCell ⟨B, i, none⟩ v).cell? ⟨B, j, none⟩ = W.cell? ⟨B, j, none⟩ := fun W i j v hij => World.cell?_setCell_other W ⟨B, i, none⟩ ⟨B, j, none⟩ v (by intro e; injection e with _ e _; exact hij e)
  have s : ∀ (W : World) (i : Nat) (v : Value) {x : Value}, W.cell? ⟨B, i, none⟩ = some x → (W.setCell ⟨B, i, none⟩ v).cell? ⟨B, i, none⟩ = some v := fun W i v x hx => World.cell?_setCell_same W ⟨B, i, none⟩ v hx
  refine ⟨?_, ?_, ?_, ?_, by simp [h.f0], by simp [h.f1], by simp [h.f2], by simp [h.f3], by have := h.lt; simpa using this⟩
  · rw [o _ 3 0 _ (by omega), o _ 2 0 _ (by omega), o _ 1 0 _ (by omega)]
    exact s _ 0 _ h.c0
  · rw [o _ 3 1 _ (by omega), o _ 2 1 _ (by omega)]
    exact s _ 1 _ (by rw [o _ 0 1 _ (by omega)]; exact h.c1)
  · rw [o _ 3 2 _ (by omega)]
    exact s _ 2 _ (by rw [o _ 1 2 _ (by omega), o _ 0 2 _ (by omega)]; exact h.c2)
  · exact s _ 3 _ (by rw [o _ 2 3 _ (by omega), o _ 1 3 _ (by omega), o _ 0 3 _ (by omega)]; exact h.c3)

theorem Below.put4 {B : Nat} {a W : World} {b : Nat} (h : Below B a W) (hb : B ≤ b) (x y z v : Value) : Below B a ((((W.setCell ⟨b, 0, none⟩ x).setCell ⟨b, 1, none⟩ y).setCell ⟨b, 2, none⟩ z).setCell ⟨b, 3, none⟩ v) :=
  (((h.setCell hb _).setCell hb _).setCell hb _).setCell hb _

/-- A pulse in a block of its own. -/
structure PC (W : World) (B : Nat) (p : Pu) : Prop where
  c0 : W.cell? ⟨B, 0, none⟩ = some (.int .i64 p.ax)
  c1 : W.cell? ⟨B, 1, none⟩ = some (.int .i64 p.ha)
  c2 : W.cell? ⟨B, 2, none⟩ = some (.bool p.bk)
  lt : B < W.heap.size

theorem PC.below {W W' : World} {B : Nat} {p : Pu} (h : PC W B p) (hb : Below W.heap.size W W') : PC W' B p :=
  ⟨(hb.cell (p := ⟨B, 0, none⟩) h.lt).trans h.c0, (hb.cell (p := ⟨B, 1, none⟩) h.lt).trans h.c1, (hb.cell (p := ⟨B, 2, none⟩) h.lt).trans h.c2, Nat.lt_of_lt_of_le h.lt hb.size⟩

theorem PC.alloc {W : World} {B : Nat} {p : Pu} (h : PC W B p) (o : Obj) : PC (W.alloc o) B p := h.below ((Below.refl _ _).alloc (Nat.le_refl _) _)

theorem PC.new (W : World) (T : TypeId) (p : Pu) : PC (W.alloc (.cells #[.int .i64 p.ax, .int .i64 p.ha, .bool p.bk] T)) W.heap.size p :=
  ⟨by simp [go_sem], by simp [go_sem], by simp [go_sem], by simp⟩

end Go.Proofs.Ytlglbinalocilaa

namespace Go.Proofs.Ytlglbinalocilaa
open Go.RowKit

def noHalved : Value := .tuple #[.agg #[.complex .f32 0 0, .complex .f32 0 0, .complex .f32 0 0, .complex .f32 0 0], .int .i64 2]

set_option maxHeartbeats 1000000 in
theorem implHalvedNo (i k : Int) (w : World) (h : i < 0 ∨ 2 < i ∨ k < 0 ∨ 24 < k) :
    Calls Try.prog 93 #[.int .i64 i, .int .i64 k] w fun e w' => e = .returned noHalved ∧ Below w.heap.size w w' := by
  unfold noHalved
  have h' : i < 0 ∨ (0 ≤ i ∧ 3 ≤ i) ∨ (0 ≤ i ∧ i < 3 ∧ k < 0) ∨ (0 ≤ i ∧ i < 3 ∧ 0 ≤ k ∧ 24 < k) := by omega
  clear h
  rcases h' with h | ⟨h1, h2⟩ | ⟨h1, h2, h3⟩ | ⟨h1, h2, h3, h4⟩
  all_goals
    go_enter Try.func93, Try.ntmps93
    go_wp2_with fail
    refine bodyPost_ret (v := .tuple #[.agg #[.complex .f32 0 0, .complex .f32 0 0, .complex .f32 0 0, .complex .f32 0 0], .int .i64 2]) (by simp [results, Try.results93, go_sem]) rfl ⟨rfl, ?_⟩
    all_goals repeat first
      | exact Below.refl _ _
      | refine Below.setCell ?_ ?_ _
      | refine Below.alloc ?_ ?_ _
    all_goals first | omega | (simp; done) | (simp; omega)

set_option maxHeartbeats 1000000 in
def someHalved (i : Int) (n : Nat) : Value := .tuple #[aboutOf i (halved n).1 (halved n).2, .int .i64 0]

set_option maxHeartbeats 1000000 in
set_option maxHeartbeats 1000000 in
theorem implHalvedYes (i : Int) (n : Nat) (w : World) (hi : i = 0 ∨ i = 1 ∨ i = 2) (hn : n ≤ 24) :
    Calls Try.prog 93 #[.int .i64 i, .int .i64 n] w fun e w' => e = .returned (someHalved i n) ∧ Below w.heap.size w w' := by
  unfold someHalved aboutOf
  have HH := Lib.hid (fun w => implHalved n w hn)
  have HT := Lib.hid (fun a b c d w => turnOfParts_any a b c d w)
  unfold tableOf at *
  generalize halved n = cs at *
  have h1 : (0 : Int) ≤ n := by omega
  have h2 : (n : Int) ≤ 24 := by omega
  clear hn
  rcases hi with rfl | rfl | rfl
  · rw [if_pos rfl]
    have e0 : w.heap.size < w.heap.size + 1 + 1 := by omega
    go_enter Try.func93, Try.ntmps93
    go_wp2_with fail
    refine (HH.out _).mono ?_
    rintro e w' ⟨rfl, rfl⟩
    go_wp2_with fail
    refine (HT.out _ _ _ _ _).mono ?_
    rintro e w2 ⟨rfl, hb2⟩
    obtain ⟨hc2, hf2⟩ := bcell hb2
    have hz2 : w.heap.size < w2.heap.size := by have := hb2.size; simp at this; omega
    have HB2 := Lib.hid hb2
    clear hb2
    go_wp2_with fail
    refine bodyPost_ret (v := .tuple #[.agg #[.complex .f32 cs.1 (Op.negFloat .f32 0), .complex .f32 (Op.negFloat .f32 0) (Op.negFloat .f32 cs.2), .complex .f32 0 (Op.negFloat .f32 cs.2), .complex .f32 cs.1 0], .int .i64 0]) (by simp [results, Try.results93, go_sem, hc2, hz2, e0]) rfl ⟨rfl, ?_⟩
    all_goals repeat first
      | exact Below.refl _ _
      | refine Below.setCell ?_ ?_ _
      | refine below_step HB2.out ?_ ?_
      | refine Below.alloc ?_ ?_ _
    all_goals first | omega | (simp; done) | (simp; omega)
  · rw [if_neg (by decide), if_pos rfl]
    have e0 : w.heap.size < w.heap.size + 1 + 1 := by omega
    go_enter Try.func93, Try.ntmps93
    go_wp2_with fail
    refine (HH.out _).mono ?_
    rintro e w' ⟨rfl, rfl⟩
    go_wp2_with fail
    refine (HT.out _ _ _ _ _).mono ?_
    rintro e w2 ⟨rfl, hb2⟩
    obtain ⟨hc2, hf2⟩ := bcell hb2
    have hz2 : w.heap.size < w2.heap.size := by have := hb2.size; simp at this; omega
    have HB2 := Lib.hid hb2
    clear hb2
    go_wp2_with fail
    refine bodyPost_ret (v := .tuple #[.agg #[.complex .f32 cs.1 (Op.negFloat .f32 0), .complex .f32 (Op.negFloat .f32 cs.2) (Op.negFloat .f32 0), .complex .f32 cs.2 (Op.negFloat .f32 0), .complex .f32 cs.1 0], .int .i64 0]) (by simp [results, Try.results93, go_sem, hc2, hz2, e0]) rfl ⟨rfl, ?_⟩
    all_goals repeat first
      | exact Below.refl _ _
      | refine Below.setCell ?_ ?_ _
      | refine below_step HB2.out ?_ ?_
      | refine Below.alloc ?_ ?_ _
    all_goals first | omega | (simp; done) | (simp; omega)
  · rw [if_neg (by decide), if_neg (by decide)]
    have e0 : w.heap.size < w.heap.size + 1 + 1 := by omega
    go_enter Try.func93, Try.ntmps93
    go_wp2_with fail
    refine (HH.out _).mono ?_
    rintro e w' ⟨rfl, rfl⟩
    go_wp2_with fail
    refine (HT.out _ _ _ _ _).mono ?_
    rintro e w2 ⟨rfl, hb2⟩
    obtain ⟨hc2, hf2⟩ := bcell hb2
    have hz2 : w.heap.size < w2.heap.size := by have := hb2.size; simp at this; omega
    have HB2 := Lib.hid hb2
    clear hb2
    go_wp2_with fail
    refine bodyPost_ret (v := .tuple #[.agg #[.complex .f32 cs.1 (Op.negFloat .f32 cs.2), .complex .f32 (Op.negFloat .f32 0) (Op.negFloat .f32 0), .complex .f32 0 (Op.negFloat .f32 0), .complex .f32 cs.1 cs.2], .int .i64 0]) (by simp [results, Try.results93, go_sem, hc2, hz2, e0]) rfl ⟨rfl, ?_⟩
    all_goals repeat first
      | exact Below.refl _ _
      | refine Below.setCell ?_ ?_ _
      | refine below_step HB2.out ?_ ?_
      | refine Below.alloc ?_ ?_ _
    all_goals first | omega | (simp; done) | (simp; omega)

end Go.Proofs.Ytlglbinalocilaa
