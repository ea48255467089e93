/- Walks: products of tables, those of the program. -/
import Derived.Test.YtaghfffbhgpalaaKbg
namespace Go.Proofs.Ytaghfffbhgpalaa
open Go.RowKit

theorem below_both {B : Nat} {W w : World} (h : Below B W w) (a : Addr) (v : Value) : Below B (W.setCell a v) (w.setCell a v) := by
  refine ⟨h.os, h.tape, h.output, ?_, ?_⟩
  · have := h.size
    simpa [World.setCell] using this
  · intro k hk
    have := h.block k hk
    unfold World.setCell
    simp only [Array.getElem?_modify, this]

def Tb.turned (t : Tb) : Tb := ⟨t.a, t.c, t.b, t.d⟩

set_option maxHeartbeats 1000000 in
theorem transposed_ok (t : Tb) (w : World) :
    Calls Try.prog 56 #[t.v] w fun e w' => e = .returned t.turned.v ∧ Below w.heap.size w w' := by
  unfold Tb.turned Tb.v
  obtain ⟨⟨a0, a1⟩, ⟨a2, a3⟩, ⟨a4, a5⟩, ⟨a6, a7⟩⟩ := t
  simp only [Cx.v]
  go_enter Try.func56, Try.ntmps56
  go_wp2
  refine bodyPost_ret (v := .agg #[.complex .f32 a0 a1, .complex .f32 a4 a5, .complex .f32 a2 a3, .complex .f32 a6 a7]) (by simp [results, Try.results56, go_sem]) rfl ⟨rfl, ?_⟩
  all_goals repeat first
    | exact Below.refl _ _
    | refine Below.setCell ?_ ?_ _
    | refine Below.alloc ?_ ?_ _
    | refine below_drewN ?_ _
  all_goals first | omega | (simp; done) | (simp; omega)

set_option maxRecDepth 100000 in
set_option maxHeartbeats 2000000 in
theorem times_ok {s t : Tb} (h : MulOk s t) (w : World) :
    Calls Try.prog 46 #[s.v, t.v] w fun e w' => e = .returned (.tuple #[(s.mul t).v, .int .i64 0]) ∧ Below w.heap.size w w' := by
  obtain ⟨h0, h1, h2, h3⟩ := h
  have T := Lib.hid (fun w => transposed_ok t w)
  have A := Lib.hid (fun w => apply_ok h0 h2 w)
  have B := Lib.hid (fun w => apply_ok h1 h3 w)
  have U := Lib.hid (fun w => transposed_ok ⟨ent s.a t.a s.b t.c, ent s.c t.a s.d t.c, ent s.a t.b s.b t.d, ent s.c t.b s.d t.d⟩ w)
  unfold Tb.turned Tb.v at *
  unfold Tb.mul
  unfold pair at *
  clear h0 h1 h2 h3
  generalize ent s.a t.a s.b t.c = e0 at *
  generalize ent s.a t.b s.b t.d = e1 at *
  generalize ent s.c t.a s.d t.c = e2 at *
  generalize ent s.c t.b s.d t.d = e3 at *
  obtain ⟨⟨a0, a1⟩, ⟨a2, a3⟩, ⟨a4, a5⟩, ⟨a6, a7⟩⟩ := s
  obtain ⟨⟨b0, b1⟩, ⟨b2, b3⟩, ⟨b4, b5⟩, ⟨b6, b7⟩⟩ := t
  obtain ⟨e0r, e0i⟩ := e0
  obtain ⟨e1r, e1i⟩ := e1
  obtain ⟨e2r, e2i⟩ := e2
  obtain ⟨e3r, e3i⟩ := e3
  simp only [Cx.v] at *
  have hmk : ∀ w, (Instr.makeSlice 84 (.int .i64 0) (.int .i64 2)).run Try.prog w = .ok (.slice (some ⟨w.heap.size, 0, none⟩) 0 2) (w.alloc (.cells #[.complex .f32 0 0, .complex .f32 0 0, .complex .f32 0 0, .complex .f32 0 0] 45)) := fun _ => by kernel_rfl
  have hi0 : ∀ w, (Instr.index 47 (.agg #[.complex .f32 b0 b1, .complex .f32 b4 b5, .complex .f32 b2 b3, .complex .f32 b6 b7]) (.int .i64 0)).run Try.prog w = .ok (.agg #[.complex .f32 b0 b1, .complex .f32 b4 b5]) w := fun _ => by kernel_rfl
  have hi1 : ∀ w, (Instr.index 47 (.agg #[.complex .f32 b0 b1, .complex .f32 b4 b5, .complex .f32 b2 b3, .complex .f32 b6 b7]) (.int .i64 1)).run Try.prog w = .ok (.agg #[.complex .f32 b2 b3, .complex .f32 b6 b7]) w := fun _ => by kernel_rfl
  have hat : ∀ (b : Nat) w, (Instr.arrayAt 47 (.slice (some ⟨b, 0, none⟩) 2 2)).run Try.prog w = .ok (.pointer (some ⟨b, 0, none⟩)) w := fun _ _ => by kernel_rfl
  go_enter Try.func46, Try.ntmps46
  go_wp2_with fail
  refine (T.out _).mono ?_
  rintro e w1 ⟨rfl, hb1⟩
  generalize hW0 : (((w.alloc (.cells #[.complex .f32 a0 a1, .complex .f32 a2 a3, .complex .f32 a4 a5, .complex .f32 a6 a7] 47)).alloc (.cells #[.complex .f32 b0 b1, .complex .f32 b2 b3, .complex .f32 b4 b5, .complex .f32 b6 b7] 47)).alloc (.cells #[.complex .f32 0 0, .complex .f32 0 0, .complex .f32 0 0, .complex .f32 0 0] 47)) = W0 at hb1
  have hs : W0.heap.size = w.heap.size + 1 + 1 + 1 := by subst hW0; simp
  have hb2 : Below (w.heap.size + 1 + 1 + 1 + 1) (W0.alloc (.cells #[.complex .f32 0 0, .complex .f32 0 0, .complex .f32 0 0, .complex .f32 0 0] 45)) w1 := by
    have := hb1; simp only [World.size_alloc, hs] at this; exact this
  have HB := Lib.hid hb2
  clear hb1 hb2
  go_wp2_with fail
  go_loopw [6, 14] (fun s i wr => (i = .int .i64 0 ∧ s = .slice (some ⟨w.heap.size + 1 + 1 + 1, 0, none⟩) 0 2 ∧ Below (w.heap.size + 1 + 1 + 1 + 1) (W0.alloc (.cells #[.complex .f32 0 0, .complex .f32 0 0, .complex .f32 0 0, .complex .f32 0 0] 45)) wr) ∨
    (i = .int .i64 1 ∧ s = .slice (some ⟨w.heap.size + 1 + 1 + 1, 0, none⟩) 1 2 ∧ Below (w.heap.size + 1 + 1 + 1 + 1) (W0.alloc (.cells #[.complex .f32 e0r e0i, .complex .f32 e2r e2i, .complex .f32 0 0, .complex .f32 0 0] 45)) wr) ∨
    (i = .int .i64 2 ∧ s = .slice (some ⟨w.heap.size + 1 + 1 + 1, 0, none⟩) 2 2 ∧ Below (w.heap.size + 1 + 1 + 1 + 1) (W0.alloc (.cells #[.complex .f32 e0r e0i, .complex .f32 e2r e2i, .complex .f32 e1r e1i, .complex .f32 e3r e3i] 45)) wr)) (fun _ i _ => 2 - (intOf i).toNat)
  case atStart => exact .inl ⟨rfl, rfl, HB.out⟩
  case round =>
    rcases hrel with ⟨rfl, rfl, hb⟩ | ⟨rfl, rfl, hb⟩ | ⟨rfl, rfl, hb⟩
    · have ha : ∀ o, wr.cell? ⟨w.heap.size, o, none⟩ = (W0.alloc (.cells #[.complex .f32 0 0, .complex .f32 0 0, .complex .f32 0 0, .complex .f32 0 0] 45)).cell? ⟨w.heap.size, o, none⟩ := fun o => hb.cell (p := ⟨w.heap.size, o, none⟩) (by show w.heap.size < _; omega)
      have a0' : wr.cell? ⟨w.heap.size, 0, none⟩ = some (.complex .f32 a0 a1) := by rw [ha]; subst hW0; simp [go_sem]
      have a1' : wr.cell? ⟨w.heap.size, 1, none⟩ = some (.complex .f32 a2 a3) := by rw [ha]; subst hW0; simp [go_sem]
      have a2' : wr.cell? ⟨w.heap.size, 2, none⟩ = some (.complex .f32 a4 a5) := by rw [ha]; subst hW0; simp [go_sem]
      have a3' : wr.cell? ⟨w.heap.size, 3, none⟩ = some (.complex .f32 a6 a7) := by rw [ha]; subst hW0; simp [go_sem]
      have hz : w.heap.size < wr.heap.size := by have := hb.size; simp [hs] at this; omega
      have HC := Lib.hid hb
      clear hb ha
      go_wp2_with fail
      refine (A.out _).mono ?_
      rintro e w2 ⟨rfl, hb2⟩
      have hsz : w.heap.size + 1 + 1 + 1 + 1 ≤ wr.heap.size := by have := HC.out.size; simp [hs] at this; omega
      have hd : Below (w.heap.size + 1 + 1 + 1 + 1) (W0.alloc (.cells #[.complex .f32 0 0, .complex .f32 0 0, .complex .f32 0 0, .complex .f32 0 0] 45)) w2 := (HC.out.alloc hsz _).trans (hb2.mono (by simp; omega))
      have hc : ∀ o, w2.cell? ⟨w.heap.size + 1 + 1 + 1, o, none⟩ = (W0.alloc (.cells #[.complex .f32 0 0, .complex .f32 0 0, .complex .f32 0 0, .complex .f32 0 0] 45)).cell? ⟨w.heap.size + 1 + 1 + 1, o, none⟩ := fun o => hd.cell (p := ⟨w.heap.size + 1 + 1 + 1, o, none⟩) (by show w.heap.size + 1 + 1 + 1 < _; omega)
      have hf : ∀ o, w2.frozen? ⟨w.heap.size + 1 + 1 + 1, o, none⟩ = (W0.alloc (.cells #[.complex .f32 0 0, .complex .f32 0 0, .complex .f32 0 0, .complex .f32 0 0] 45)).frozen? ⟨w.heap.size + 1 + 1 + 1, o, none⟩ := fun o => hd.frozen (p := ⟨w.heap.size + 1 + 1 + 1, o, none⟩) (by show w.heap.size + 1 + 1 + 1 < _; omega)
      have c0 := hc 0
      have c1 := hc 1
      have f0 := hf 0
      have f1 := hf 1
      simp [go_sem, hs] at c0 c1 f0 f1
      have hz2 : w.heap.size + 1 + 1 + 1 < w2.heap.size := by have := hd.size; simp [hs] at this; omega
      have hz3 : w.heap.size + 1 + 1 + 1 < w2.heap.size + 1 := by omega
      have hn2 : ¬ w.heap.size + 1 + 1 + 1 = w2.heap.size := by omega
      have hn3 : ¬ w.heap.size + 1 + 1 + 1 = w2.heap.size + 1 := by omega
      have HD := Lib.hid hd
      clear hd hc hf hb2
      go_wp2_with fail
      go_roundw
      case rel =>
        have hp := below_both (below_both HD.out ⟨w.heap.size + 1 + 1 + 1, 0, none⟩ (.complex .f32 e0r e0i)) ⟨w.heap.size + 1 + 1 + 1, 1, none⟩ (.complex .f32 e2r e2i)
        rw [World.setCell_alloc_at _ _ _ _ _ hs.symm, World.setCell_alloc_at _ _ _ _ _ hs.symm] at hp
        exact .inr (.inl ⟨by go_num, rfl, (hp.alloc (by simp; omega) _).alloc (by simp; omega) _⟩)
      case measure => simp [intOf]
    · have ha : ∀ o, wr.cell? ⟨w.heap.size, o, none⟩ = (W0.alloc (.cells #[.complex .f32 e0r e0i, .complex .f32 e2r e2i, .complex .f32 0 0, .complex .f32 0 0] 45)).cell? ⟨w.heap.size, o, none⟩ := fun o => hb.cell (p := ⟨w.heap.size, o, none⟩) (by show w.heap.size < _; omega)
      have a0' : wr.cell? ⟨w.heap.size, 0, none⟩ = some (.complex .f32 a0 a1) := by rw [ha]; subst hW0; simp [go_sem]
      have a1' : wr.cell? ⟨w.heap.size, 1, none⟩ = some (.complex .f32 a2 a3) := by rw [ha]; subst hW0; simp [go_sem]
      have a2' : wr.cell? ⟨w.heap.size, 2, none⟩ = some (.complex .f32 a4 a5) := by rw [ha]; subst hW0; simp [go_sem]
      have a3' : wr.cell? ⟨w.heap.size, 3, none⟩ = some (.complex .f32 a6 a7) := by rw [ha]; subst hW0; simp [go_sem]
      have hz : w.heap.size < wr.heap.size := by have := hb.size; simp [hs] at this; omega
      have HC := Lib.hid hb
      clear hb ha
      go_wp2_with fail
      refine (B.out _).mono ?_
      rintro e w2 ⟨rfl, hb2⟩
      have hsz : w.heap.size + 1 + 1 + 1 + 1 ≤ wr.heap.size := by have := HC.out.size; simp [hs] at this; omega
      have hd : Below (w.heap.size + 1 + 1 + 1 + 1) (W0.alloc (.cells #[.complex .f32 e0r e0i, .complex .f32 e2r e2i, .complex .f32 0 0, .complex .f32 0 0] 45)) w2 := (HC.out.alloc hsz _).trans (hb2.mono (by simp; omega))
      have hc : ∀ o, w2.cell? ⟨w.heap.size + 1 + 1 + 1, o, none⟩ = (W0.alloc (.cells #[.complex .f32 e0r e0i, .complex .f32 e2r e2i, .complex .f32 0 0, .complex .f32 0 0] 45)).cell? ⟨w.heap.size + 1 + 1 + 1, o, none⟩ := fun o => hd.cell (p := ⟨w.heap.size + 1 + 1 + 1, o, none⟩) (by show w.heap.size + 1 + 1 + 1 < _; omega)
      have hf : ∀ o, w2.frozen? ⟨w.heap.size + 1 + 1 + 1, o, none⟩ = (W0.alloc (.cells #[.complex .f32 e0r e0i, .complex .f32 e2r e2i, .complex .f32 0 0, .complex .f32 0 0] 45)).frozen? ⟨w.heap.size + 1 + 1 + 1, o, none⟩ := fun o => hd.frozen (p := ⟨w.heap.size + 1 + 1 + 1, o, none⟩) (by show w.heap.size + 1 + 1 + 1 < _; omega)
      have c0 := hc 2
      have c1 := hc 3
      have f0 := hf 2
      have f1 := hf 3
      simp [go_sem, hs] at c0 c1 f0 f1
      have hz2 : w.heap.size + 1 + 1 + 1 < w2.heap.size := by have := hd.size; simp [hs] at this; omega
      have hz3 : w.heap.size + 1 + 1 + 1 < w2.heap.size + 1 := by omega
      have hn2 : ¬ w.heap.size + 1 + 1 + 1 = w2.heap.size := by omega
      have hn3 : ¬ w.heap.size + 1 + 1 + 1 = w2.heap.size + 1 := by omega
      have HD := Lib.hid hd
      clear hd hc hf hb2
      go_wp2_with fail
      go_roundw
      case rel =>
        have hp := below_both (below_both HD.out ⟨w.heap.size + 1 + 1 + 1, 2, none⟩ (.complex .f32 e1r e1i)) ⟨w.heap.size + 1 + 1 + 1, 3, none⟩ (.complex .f32 e3r e3i)
        rw [World.setCell_alloc_at _ _ _ _ _ hs.symm, World.setCell_alloc_at _ _ _ _ _ hs.symm] at hp
        exact .inr (.inr ⟨by go_num, rfl, (hp.alloc (by simp; omega) _).alloc (by simp; omega) _⟩)
      case measure => simp [intOf]
    · have ha : ∀ o, wr.cell? ⟨w.heap.size + 1 + 1 + 1, o, none⟩ = (W0.alloc (.cells #[.complex .f32 e0r e0i, .complex .f32 e2r e2i, .complex .f32 e1r e1i, .complex .f32 e3r e3i] 45)).cell? ⟨w.heap.size + 1 + 1 + 1, o, none⟩ := fun o => hb.cell (p := ⟨w.heap.size + 1 + 1 + 1, o, none⟩) (by show w.heap.size + 1 + 1 + 1 < _; omega)
      have a0' := ha 0
      have a1' := ha 1
      have a2' := ha 2
      have a3' := ha 3
      simp [go_sem, hs] at a0' a1' a2' a3'
      have hz : w.heap.size < wr.heap.size := by have := hb.size; simp [hs] at this; omega
      have HC := Lib.hid hb
      clear hb ha
      go_wp2_with fail
      refine (U.out _).mono ?_
      rintro e w2 ⟨rfl, hb2⟩
      have hsz : w.heap.size + 1 + 1 + 1 + 1 ≤ wr.heap.size := by have := HC.out.size; simp [hs] at this; omega
      have hd : Below (w.heap.size + 1 + 1 + 1 + 1) (W0.alloc (.cells #[.complex .f32 e0r e0i, .complex .f32 e2r e2i, .complex .f32 e1r e1i, .complex .f32 e3r e3i] 45)) w2 := HC.out.trans (hb2.mono (by omega))
      have hc : ∀ o, w2.cell? ⟨w.heap.size + 1 + 1, o, none⟩ = (W0.alloc (.cells #[.complex .f32 e0r e0i, .complex .f32 e2r e2i, .complex .f32 e1r e1i, .complex .f32 e3r e3i] 45)).cell? ⟨w.heap.size + 1 + 1, o, none⟩ := fun o => hd.cell (p := ⟨w.heap.size + 1 + 1, o, none⟩) (by show w.heap.size + 1 + 1 < _; omega)
      have hf : ∀ o, w2.frozen? ⟨w.heap.size + 1 + 1, o, none⟩ = (W0.alloc (.cells #[.complex .f32 e0r e0i, .complex .f32 e2r e2i, .complex .f32 e1r e1i, .complex .f32 e3r e3i] 45)).frozen? ⟨w.heap.size + 1 + 1, o, none⟩ := fun o => hd.frozen (p := ⟨w.heap.size + 1 + 1, o, none⟩) (by show w.heap.size + 1 + 1 < _; omega)
      have r0 : w2.cell? ⟨w.heap.size + 1 + 1, 0, none⟩ = some (.complex .f32 0 0) := by rw [hc]; subst hW0; simp [go_sem]
      have g0 : w2.frozen? ⟨w.heap.size + 1 + 1, 0, none⟩ = false := by rw [hf]; subst hW0; simp [go_sem]
      have r1 : w2.cell? ⟨w.heap.size + 1 + 1, 1, none⟩ = some (.complex .f32 0 0) := by rw [hc]; subst hW0; simp [go_sem]
      have g1 : w2.frozen? ⟨w.heap.size + 1 + 1, 1, none⟩ = false := by rw [hf]; subst hW0; simp [go_sem]
      have r2 : w2.cell? ⟨w.heap.size + 1 + 1, 2, none⟩ = some (.complex .f32 0 0) := by rw [hc]; subst hW0; simp [go_sem]
      have g2 : w2.frozen? ⟨w.heap.size + 1 + 1, 2, none⟩ = false := by rw [hf]; subst hW0; simp [go_sem]
      have r3 : w2.cell? ⟨w.heap.size + 1 + 1, 3, none⟩ = some (.complex .f32 0 0) := by rw [hc]; subst hW0; simp [go_sem]
      have g3 : w2.frozen? ⟨w.heap.size + 1 + 1, 3, none⟩ = false := by rw [hf]; subst hW0; simp [go_sem]
      have hz2 : w.heap.size < w2.heap.size := by have := hd.size; simp [hs] at this; omega
      have HD := Lib.hid hd
      clear hd hc hf hb2
      go_wp2_with fail
      refine bodyPost_ret (v := .tuple #[.agg #[.complex .f32 e0r e0i, .complex .f32 e1r e1i, .complex .f32 e2r e2i, .complex .f32 e3r e3i], .int .i64 0]) (by simp [results, Try.results46, go_sem, r0, r1, r2, r3, g0, g1, g2, g3]) rfl ⟨rfl, ?_⟩
      subst hW0
      all_goals repeat first
        | exact Below.refl _ _
        | refine Below.setCell ?_ ?_ _
        | refine Below.trans ?_ (Below.mono HD.out ?_)
        | refine Below.alloc ?_ ?_ _
      all_goals first | omega | (simp; done) | (simp; omega)

end Go.Proofs.Ytaghfffbhgpalaa
