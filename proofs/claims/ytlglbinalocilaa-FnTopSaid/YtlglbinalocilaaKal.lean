/- Walks: drifts of tables, those of the specification. Walks: products of tables, those of the program. Arrays held against each other: element by element. -/
import Derived.Test.YtlglbinalocilaaDs
import Derived.Test.YtlglbinalocilaaTb
import Derived.Test.YtlglbinalocilaaKaf
import Derived.Deep.RegionHeld3
namespace Go.Proofs.Ytlglbinalocilaa
open Go.RowKit

/-- A table in a new variable. -/
def Tab1 (w wr : World) (v0 v1 v2 v3 : Value) : Prop := Below (w.heap.size + 1) (w.alloc (.cells #[v0, v1, v2, v3] 29)) wr

theorem tab1_call {w wr w' : World} {v0 v1 v2 v3 : Value} {n : Nat} (h : Below (wr.drewN n).heap.size (wr.drewN n) w') (h1 : Tab1 w wr v0 v1 v2 v3) : Tab1 w w' v0 v1 v2 v3 := below_call h h1 (by simp)

theorem tab1_call0 {w wr w' : World} {v0 v1 v2 v3 : Value} (h : Below wr.heap.size wr w') (h1 : Tab1 w wr v0 v1 v2 v3) : Tab1 w w' v0 v1 v2 v3 := tab1_call (n := 0) h h1

theorem tab1_cells {w wr : World} {v0 v1 v2 v3 : Value} (hb : Tab1 w wr v0 v1 v2 v3) :
    wr.cell? ⟨w.heap.size, 0, none⟩ = some v0 ∧ wr.cell? ⟨w.heap.size, 1, none⟩ = some v1 ∧ wr.cell? ⟨w.heap.size, 2, none⟩ = some v2 ∧ wr.cell? ⟨w.heap.size, 3, none⟩ = some v3 := by
  have h : ∀ b o, b < w.heap.size + 1 → wr.cell? ⟨b, o, none⟩ = _ := fun b o h => Below.cell hb (p := ⟨b, o, none⟩) h
  refine ⟨?_, ?_, ?_, ?_⟩
  all_goals
    rw [h _ _ (by omega)]
    simp [go_sem]

theorem tab1_below {w wr : World} {v0 v1 v2 v3 : Value} (hb : Tab1 w wr v0 v1 v2 v3) : Below w.heap.size w wr := ((Below.refl _ _).alloc (Nat.le_refl _) _).trans (Below.mono hb (by omega))

def one32 : Nat := 1065353216

theorem one_vl : Vl one32 (2 ^ 149) ∧ Bd 0 one32 := by
  have e : one32 = S false 1 0 := by decide +kernel
  refine ⟨⟨false, 1, 0, e, fitS_pow 0 (by omega) (by omega), by decide +kernel⟩, ?_⟩
  rw [e]
  exact bd_mk false 1 0 0 0 (by omega) (by omega) (by omega) (by omega) (by decide)

/-- The greater one. -/
def gtW (x y : Nat) : Bool := FloatKind.f32.format.order x y == some .gt
def pick (o x : Nat) : Nat := if gtW x o then x else o

/-- The drift, as the specification reckons it. -/
def driftS (t : Tb) : Nat := pick (pick (sizeS (sm (qOf t) (Op.negFloat .f32 one32))) (sizeS (sm (detS t).re (Op.negFloat .f32 one32)))) (sizeS (detS t).im)

end Go.Proofs.Ytlglbinalocilaa

namespace Go.Proofs.Ytlglbinalocilaa
open Go.RowKit

def pair (z w : Cx) : Value := .agg #[z.v, w.v]

/-- What the program's entry walks over. -/
theorem ent_add {z w z' w' : Cx} (h : EntOk z w z' w') (W : World) :
    Calls Try.prog 100 #[z.v, w.v, z'.v, w'.v] W fun e W' => e = .returned (.tuple #[(ent z w z' w').v, .int .i64 0]) ∧ W = W' := by
  obtain ⟨k, h⟩ := h
  exact addProducts_ok h W

set_option maxRecDepth 100000 in
set_option maxHeartbeats 2000000 in
theorem apply_ok {s : Tb} {x y : Cx} (h0 : EntOk s.a x s.b y) (h1 : EntOk s.c x s.d y) (w : World) :
    Calls Try.prog 87 #[s.v, pair x y] w fun e w' => e = .returned (.tuple #[pair (ent s.a x s.b y) (ent s.c x s.d y), .int .i64 0]) ∧ Below w.heap.size w w' := by
  have p0 := ent_add h0
  have p1 := ent_add h1
  unfold pair Tb.v
  clear h0 h1
  generalize ent s.a x s.b y = e0 at *
  generalize ent s.c x s.d y = e1 at *
  obtain ⟨⟨a0, a1⟩, ⟨a2, a3⟩, ⟨a4, a5⟩, ⟨a6, a7⟩⟩ := s
  obtain ⟨xr, xi⟩ := x
  obtain ⟨yr, yi⟩ := y
  obtain ⟨e0r, e0i⟩ := e0
  obtain ⟨e1r, e1i⟩ := e1
  simp only [Cx.v] at *
  have P0 := Lib.hid p0
  have P1 := Lib.hid p1
  clear p0 p1
  have hmk : ∀ w, (Instr.makeSlice 136 (.int .i64 0) (.int .i64 2)).run Try.prog w = .ok (.slice (some ⟨w.heap.size, 0, none⟩) 0 2) (w.alloc (.cells #[.complex .f32 0 0, .complex .f32 0 0] 26)) := fun _ => by kernel_rfl
  have hi0 : ∀ w, (Instr.index 29 (.agg #[.complex .f32 a0 a1, .complex .f32 a2 a3, .complex .f32 a4 a5, .complex .f32 a6 a7]) (.int .i64 0)).run Try.prog w = .ok (.agg #[.complex .f32 a0 a1, .complex .f32 a2 a3]) w := fun _ => by kernel_rfl
  have hi1 : ∀ w, (Instr.index 29 (.agg #[.complex .f32 a0 a1, .complex .f32 a2 a3, .complex .f32 a4 a5, .complex .f32 a6 a7]) (.int .i64 1)).run Try.prog w = .ok (.agg #[.complex .f32 a4 a5, .complex .f32 a6 a7]) w := fun _ => by kernel_rfl
  have hat : ∀ (b : Nat) w, (Instr.arrayAt 110 (.slice (some ⟨b, 0, none⟩) 2 2)).run Try.prog w = .ok (.pointer (some ⟨b, 0, none⟩)) w := fun _ _ => by kernel_rfl
  go_enter Try.func87, Try.ntmps87
  go_wp2
  generalize hW0 : (((w.alloc (.cells #[.complex .f32 a0 a1, .complex .f32 a2 a3, .complex .f32 a4 a5, .complex .f32 a6 a7] 29)).alloc (.cells #[.complex .f32 xr xi, .complex .f32 yr yi] 110)).alloc (.cells #[.complex .f32 0 0, .complex .f32 0 0] 110)) = W0
  have hs : W0.heap.size = w.heap.size + 1 + 1 + 1 := by subst hW0; simp
  go_loopw [6, 13] (fun s i wr => (i = .int .i64 0 ∧ s = .slice (some ⟨w.heap.size + 1 + 1 + 1, 0, none⟩) 0 2 ∧ wr = W0.alloc (.cells #[.complex .f32 0 0, .complex .f32 0 0] 26)) ∨
    (i = .int .i64 1 ∧ s = .slice (some ⟨w.heap.size + 1 + 1 + 1, 0, none⟩) 1 2 ∧ wr = ((W0.alloc (.cells #[.complex .f32 e0r e0i, .complex .f32 0 0] 26)).alloc (.cells #[.complex .f32 a0 a1, .complex .f32 a2 a3] 27)).alloc (.cells #[.complex .f32 e0r e0i] 26)) ∨
    (i = .int .i64 2 ∧ s = .slice (some ⟨w.heap.size + 1 + 1 + 1, 0, none⟩) 2 2 ∧ wr = ((((W0.alloc (.cells #[.complex .f32 e0r e0i, .complex .f32 e1r e1i] 26)).alloc (.cells #[.complex .f32 a0 a1, .complex .f32 a2 a3] 27)).alloc (.cells #[.complex .f32 e0r e0i] 26)).alloc (.cells #[.complex .f32 a4 a5, .complex .f32 a6 a7] 27)).alloc (.cells #[.complex .f32 e1r e1i] 26))) (fun _ i _ => 2 - (intOf i).toNat)
  case atStart => exact .inl ⟨rfl, rfl, rfl⟩
  case round =>
    clear hs
    rcases hrel with ⟨rfl, rfl, rfl⟩ | ⟨rfl, rfl, rfl⟩ | ⟨rfl, rfl, rfl⟩
    · subst hW0
      go_wp2_with fail
      refine (P0.out _).mono ?_
      rintro e w' ⟨rfl, rfl⟩
      go_wp2_with fail
      go_roundw
      case rel => exact .inr (.inl ⟨by go_num, rfl, by first | rfl | trivial⟩)
      case measure => simp [intOf]
    · subst hW0
      go_wp2_with fail
      refine (P1.out _).mono ?_
      rintro e w' ⟨rfl, rfl⟩
      go_wp2_with fail
      go_roundw
      case rel => exact .inr (.inr ⟨by go_num, rfl, by first | rfl | trivial⟩)
      case measure => simp [intOf]
    · subst hW0
      go_wp2_with fail
      refine bodyPost_ret (v := .tuple #[.agg #[.complex .f32 e0r e0i, .complex .f32 e1r e1i], .int .i64 0]) (by simp [results, Try.results87, go_sem]) rfl ⟨rfl, ?_⟩
      all_goals repeat first
        | exact Below.refl _ _
        | refine Below.alloc ?_ ?_ _
        | refine Below.setCell ?_ ?_ _
      all_goals first | omega | (simp; done) | (simp; omega)

end Go.Proofs.Ytlglbinalocilaa

namespace Go.Proofs.Ytlglbinalocilaa
open Go.RowKit

def eqElems (d : Nat) (e : TypeId) (n : Nat) (xs ys : Array Value) : List Nat → Sem Bool
  | [] => pure true
  | i :: is => do
    let a ← part e xs (i * n)
    let b ← part e ys (i * n)
    let r ← Op.equalIn d e a b
    if (!r) = true then pure false else eqElems d e n xs ys is

theorem run_equalIn_array {P : Program} (w : World) (d len s : Nat) (t e : TypeId) (xs ys : Array Value) (ht : P.underlying t = some (.array len e)) (hs : (sizeOf e).run P w = .ok s w) :
    (Op.equalIn (d + 1) t (.agg xs) (.agg ys)).run P w = (eqElems d e s xs ys (List.range len)).run P w := by
  simp only [Op.equalIn, Sem.run_bind, run_underlying ht, Result.andThen_ok, hs]
  rw [Std.Legacy.Range.forIn_eq_forIn_range']
  rw [show List.range' [:len].start [:len].size [:len].step = List.range len by simp [List.range_eq_range', Std.Legacy.Range.size]]
  clear ht hs
  generalize List.range len = is
  induction is generalizing w with
  | nil => simp [eqElems]
  | cons i is ih =>
    simp only [List.forIn_cons, eqElems, Sem.run_bind]
    generalize (part e xs (i * s)).run P w = r1
    cases r1 with
    | ok a w1 =>
      simp only [Result.andThen_ok]
      generalize (part e ys (i * s)).run P w1 = r2
      cases r2 with
      | ok b w2 =>
        simp only [Result.andThen_ok]
        generalize (Op.equalIn d e a b).run P w2 = r3
        cases r3 with
        | ok r w3 =>
          cases r
          · simp [Sem.run_ite]
          · simp only [Result.andThen_ok, Bool.not_true, Bool.false_eq_true, if_false, Sem.run_pure, Sem.run_bind]
            exact ih w3
        | halt x w3 => simp [Result.andThen]
      | halt x w2 => simp [Result.andThen]
    | halt x w1 => simp [Result.andThen]

theorem run_equalIn_float {P : Program} (w : World) (d : Nat) (t : TypeId) (k k' : FloatKind) (a b : Nat) (h : P.underlying t = some (.float k')) : (Op.equalIn (d + 1) t (.float k a) (.float k b)).run P w = .ok (k.format.order a b == some .eq) w := by
  simp [Op.equalIn, run_underlying h, Op.floatEq]

theorem run_equalIn_complex {P : Program} (w : World) (d : Nat) (t : TypeId) (k k' : FloatKind) (a b a' b' : Nat) (h : P.underlying t = some (.complex k')) : (Op.equalIn (d + 1) t (.complex k a b) (.complex k a' b')).run P w = .ok ((k.format.order a a' == some .eq) && (k.format.order b b' == some .eq)) w := by
  simp [Op.equalIn, run_underlying h, Op.floatEq]

end Go.Proofs.Ytlglbinalocilaa
