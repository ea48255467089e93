/- Walks: pairs of the program: a pair of both rows that a function makes. Walks: pairs of the program: turns of the second spin and of the first one. -/
import Derived.Test.YtlglbinalocilaaQc
namespace Go.Proofs.Ytlglbinalocilaa
open Go.RowKit

set_option maxRecDepth 100000 in
set_option maxHeartbeats 4000000 in
theorem pairOfRows_ok {e0 e1 e2 e3 : Cx} {bd bp : Nat} (w : World)
    (h0 : ∀ w', Below w.heap.size w w' → Calls Try.prog 90 #[.int .i64 0, .pointer (some ⟨bd, 0, none⟩), .pointer (some ⟨bp, 0, none⟩)] w' fun e w'' => e = .returned (.tuple #[pair e0 e1, .int .i64 0]) ∧ Below w'.heap.size w' w'')
    (h1 : ∀ w', Below w.heap.size w w' → Calls Try.prog 90 #[.int .i64 1, .pointer (some ⟨bd, 0, none⟩), .pointer (some ⟨bp, 0, none⟩)] w' fun e w'' => e = .returned (.tuple #[pair e2 e3, .int .i64 0]) ∧ Below w'.heap.size w' w'') :
    Calls Try.prog 89 #[.func (.func 90) #[] #[.pointer (some ⟨bd, 0, none⟩), .pointer (some ⟨bp, 0, none⟩)]] w fun e w' => e = .returned (.tuple #[(⟨e0, e1, e2, e3⟩ : Tb).v, .int .i64 0]) ∧ Below w.heap.size w w' := by
  have H0 := Lib.hid h0
  have H1 := Lib.hid h1
  clear h0 h1
  unfold Tb.v pair at *
  simp only [Cx.v] at *
  obtain ⟨a0, a1⟩ := e0
  obtain ⟨a2, a3⟩ := e1
  obtain ⟨a4, a5⟩ := e2
  obtain ⟨a6, a7⟩ := e3
  simp only at *
  have hmk : ∀ w, (Instr.makeSlice 136 (.int .i64 0) (.int .i64 4)).run Try.prog w = .ok (.slice (some ⟨w.heap.size, 0, none⟩) 0 4) (w.alloc (.cells #[.complex .f32 0 0, .complex .f32 0 0, .complex .f32 0 0, .complex .f32 0 0] 26)) := fun _ => by kernel_rfl
  have hat : ∀ (b : Nat) w, (Instr.arrayAt 45 (.slice (some ⟨b, 0, none⟩) 4 4)).run Try.prog w = .ok (.pointer (some ⟨b, 0, none⟩)) w := fun _ _ => by kernel_rfl
  go_enter Try.func89, Try.ntmps89
  go_wp2_with fail
  generalize hW0 : w.alloc (.cells #[.complex .f32 0 0, .complex .f32 0 0, .complex .f32 0 0, .complex .f32 0 0] 45) = W0
  have hs : W0.heap.size = w.heap.size + 1 := by subst hW0; simp
  have BW := Lib.hid (show Below w.heap.size w W0 by subst hW0; exact (Below.refl _ _).alloc (Nat.le_refl _) _)
  have RW := Lib.hid (show TC W0 w.heap.size nilTb by subst hW0; exact TC.nil w 45)
  clear hW0
  go_loopw [4, 9] (fun s i wr => (i = .int .i64 0 ∧ s = .slice (some ⟨w.heap.size + 1, 0, none⟩) 0 4 ∧ Below (w.heap.size + 1 + 1) (W0.alloc (.cells #[.complex .f32 0 0, .complex .f32 0 0, .complex .f32 0 0, .complex .f32 0 0] 26)) wr) ∨
    (i = .int .i64 1 ∧ s = .slice (some ⟨w.heap.size + 1, 0, none⟩) 2 4 ∧ Below (w.heap.size + 1 + 1) (W0.alloc (.cells #[.complex .f32 a0 a1, .complex .f32 a2 a3, .complex .f32 0 0, .complex .f32 0 0] 26)) wr) ∨
    (i = .int .i64 2 ∧ s = .slice (some ⟨w.heap.size + 1, 0, none⟩) 4 4 ∧ Below (w.heap.size + 1 + 1) (W0.alloc (.cells #[.complex .f32 a0 a1, .complex .f32 a2 a3, .complex .f32 a4 a5, .complex .f32 a6 a7] 26)) wr)) (fun _ i _ => 2 - (intOf i).toNat)
  case atStart => exact .inl ⟨rfl, rfl, Below.refl _ _⟩
  case round =>
    rcases hrel with ⟨rfl, rfl, hb⟩ | ⟨rfl, rfl, hb⟩ | ⟨rfl, rfl, hb⟩
    · have HC := Lib.hid hb
      have hz : w.heap.size + 1 + 1 ≤ wr.heap.size := by have := hb.size; simp [hs] at this; omega
      clear hb
      go_wp2_with fail
      refine (H0.out _ ((BW.out.alloc (by omega) _).trans (HC.out.mono (by omega)))).mono ?_
      rintro e w2 ⟨rfl, hb2⟩
      have hd : Below (w.heap.size + 1 + 1) (W0.alloc (.cells #[.complex .f32 0 0, .complex .f32 0 0, .complex .f32 0 0, .complex .f32 0 0] 26)) w2 := HC.out.trans (hb2.mono hz)
      have hc : ∀ o, w2.cell? ⟨w.heap.size + 1, o, none⟩ = (W0.alloc (.cells #[.complex .f32 0 0, .complex .f32 0 0, .complex .f32 0 0, .complex .f32 0 0] 26)).cell? ⟨w.heap.size + 1, o, none⟩ := fun o => hd.cell (p := ⟨w.heap.size + 1, o, none⟩) (by show w.heap.size + 1 < _; omega)
      have hf : ∀ o, w2.frozen? ⟨w.heap.size + 1, o, none⟩ = (W0.alloc (.cells #[.complex .f32 0 0, .complex .f32 0 0, .complex .f32 0 0, .complex .f32 0 0] 26)).frozen? ⟨w.heap.size + 1, o, none⟩ := fun o => hd.frozen (p := ⟨w.heap.size + 1, o, none⟩) (by show w.heap.size + 1 < _; omega)
      have c0 := hc 0
      have c1 := hc 1
      have f0 := hf 0
      have f1 := hf 1
      simp [go_sem, hs] at c0 c1 f0 f1
      have hz2 : w.heap.size + 1 < w2.heap.size := by have := hd.size; simp [hs] at this; omega
      have hz3 : w.heap.size + 1 < w2.heap.size + 1 := by omega
      have hn2 : ¬ w.heap.size + 1 = w2.heap.size := by omega
      have hn3 : ¬ w.heap.size + 1 = w2.heap.size + 1 := by omega
      have HD := Lib.hid hd
      clear hd hc hf hb2
      go_wp2_with fail
      go_roundw
      case rel =>
        have hp := below_both (below_both HD.out ⟨w.heap.size + 1, 0, none⟩ (.complex .f32 a0 a1)) ⟨w.heap.size + 1, 1, none⟩ (.complex .f32 a2 a3)
        rw [World.setCell_alloc_at _ _ _ _ _ hs.symm, World.setCell_alloc_at _ _ _ _ _ hs.symm] at hp
        exact .inr (.inl ⟨by go_num, rfl, hp.alloc (by simp; omega) _⟩)
      case measure => simp [intOf]
    · have HC := Lib.hid hb
      have hz : w.heap.size + 1 + 1 ≤ wr.heap.size := by have := hb.size; simp [hs] at this; omega
      clear hb
      go_wp2_with fail
      refine (H1.out _ ((BW.out.alloc (by omega) _).trans (HC.out.mono (by omega)))).mono ?_
      rintro e w2 ⟨rfl, hb2⟩
      have hd : Below (w.heap.size + 1 + 1) (W0.alloc (.cells #[.complex .f32 a0 a1, .complex .f32 a2 a3, .complex .f32 0 0, .complex .f32 0 0] 26)) w2 := HC.out.trans (hb2.mono hz)
      have hc : ∀ o, w2.cell? ⟨w.heap.size + 1, o, none⟩ = (W0.alloc (.cells #[.complex .f32 a0 a1, .complex .f32 a2 a3, .complex .f32 0 0, .complex .f32 0 0] 26)).cell? ⟨w.heap.size + 1, o, none⟩ := fun o => hd.cell (p := ⟨w.heap.size + 1, o, none⟩) (by show w.heap.size + 1 < _; omega)
      have hf : ∀ o, w2.frozen? ⟨w.heap.size + 1, o, none⟩ = (W0.alloc (.cells #[.complex .f32 a0 a1, .complex .f32 a2 a3, .complex .f32 0 0, .complex .f32 0 0] 26)).frozen? ⟨w.heap.size + 1, o, none⟩ := fun o => hd.frozen (p := ⟨w.heap.size + 1, o, none⟩) (by show w.heap.size + 1 < _; omega)
      have c0 := hc 2
      have c1 := hc 3
      have f0 := hf 2
      have f1 := hf 3
      simp [go_sem, hs] at c0 c1 f0 f1
      have hz2 : w.heap.size + 1 < w2.heap.size := by have := hd.size; simp [hs] at this; omega
      have hz3 : w.heap.size + 1 < w2.heap.size + 1 := by omega
      have hn2 : ¬ w.heap.size + 1 = w2.heap.size := by omega
      have hn3 : ¬ w.heap.size + 1 = w2.heap.size + 1 := by omega
      have HD := Lib.hid hd
      clear hd hc hf hb2
      go_wp2_with fail
      go_roundw
      case rel =>
        have hp := below_both (below_both HD.out ⟨w.heap.size + 1, 2, none⟩ (.complex .f32 a4 a5)) ⟨w.heap.size + 1, 3, none⟩ (.complex .f32 a6 a7)
        rw [World.setCell_alloc_at _ _ _ _ _ hs.symm, World.setCell_alloc_at _ _ _ _ _ hs.symm] at hp
        exact .inr (.inr ⟨by go_num, rfl, hp.alloc (by simp; omega) _⟩)
      case measure => simp [intOf]
    · have HC := Lib.hid hb
      have hz : w.heap.size + 1 + 1 ≤ wr.heap.size := by have := hb.size; simp [hs] at this; omega
      have hc : ∀ o, wr.cell? ⟨w.heap.size + 1, o, none⟩ = (W0.alloc (.cells #[.complex .f32 a0 a1, .complex .f32 a2 a3, .complex .f32 a4 a5, .complex .f32 a6 a7] 26)).cell? ⟨w.heap.size + 1, o, none⟩ := fun o => hb.cell (p := ⟨w.heap.size + 1, o, none⟩) (by show w.heap.size + 1 < _; omega)
      have c0 := hc 0
      have c1 := hc 1
      have c2 := hc 2
      have c3 := hc 3
      simp [go_sem, hs] at c0 c1 c2 c3
      obtain ⟨r0, r1, r2, r3, g0, g1, g2, g3, gl⟩ := (RW.out.alloc (.cells #[.complex .f32 a0 a1, .complex .f32 a2 a3, .complex .f32 a4 a5, .complex .f32 a6 a7] 26)).below (hb.mono (by simp [hs]))
      clear hb hc
      go_wp2_with fail
      refine bodyPost_ret (v := .tuple #[.agg #[.complex .f32 a0 a1, .complex .f32 a2 a3, .complex .f32 a4 a5, .complex .f32 a6 a7], .int .i64 0]) (by simp [results, Try.results89, go_sem, r0, r1, r2, r3, g0, g1, g2, g3, gl]) rfl ⟨rfl, ?_⟩
      repeat first
        | exact (BW.out.alloc (by omega) _).trans (HC.out.mono (by omega))
        | refine Below.setCell ?_ ?_ _
      all_goals first | omega | (simp; done) | (simp; omega)

end Go.Proofs.Ytlglbinalocilaa

namespace Go.Proofs.Ytlglbinalocilaa
open Go.RowKit

/-- What a table makes of the second spin. -/
def secondOf (a t : Tb) : Tb := ⟨ent a.a t.a a.b t.b, ent a.c t.a a.d t.b, ent a.a t.c a.b t.d, ent a.c t.c a.d t.d⟩

structure SecOk (a t : Tb) : Prop where
  h0 : EntOk a.a t.a a.b t.b
  h1 : EntOk a.c t.a a.d t.b
  h2 : EntOk a.a t.c a.b t.d
  h3 : EntOk a.c t.c a.d t.d

def tableIface (a : Tb) : Value := .iface 29 (.agg #[.complex .f32 a.a.re a.a.im, .complex .f32 a.b.re a.b.im, .complex .f32 a.c.re a.c.im, .complex .f32 a.d.re a.d.im])

set_option maxRecDepth 100000 in
set_option maxHeartbeats 4000000 in
theorem onSecond_ok {a t : Tb} (h : SecOk a t) (w : World) :
    Calls Try.prog 68 #[t.v, tableIface a] w fun e w' => e = .returned (.tuple #[(secondOf a t).v, .int .i64 0]) ∧ Below w.heap.size w w' := by
  obtain ⟨h0, h1, h2, h3⟩ := h
  have HP := Lib.hid (fun (bd bp : Nat) (w : World) (hx : Boxes w bd bp a t) => pairOfRows_ok (bd := bd) (bp := bp) w (fun w' hb => made0_ok h0 h1 w' (hx.below hb)) (fun w' hb => made1_ok h2 h3 w' (hx.below hb)))
  unfold secondOf tableIface
  clear h0 h1 h2 h3
  generalize ent a.a t.a a.b t.b = e0 at *
  generalize ent a.c t.a a.d t.b = e1 at *
  generalize ent a.a t.c a.b t.d = e2 at *
  generalize ent a.c t.c a.d t.d = e3 at *
  unfold Tb.v at *
  simp only [Cx.v] at *
  have hmf : ∀ (fn : Fn) (first cap : Array Value) (w : World), (Instr.makeFunc fn first cap).run Try.prog w = .ok (.func fn first cap) w := fun _ _ _ _ => rfl
  go_enter Try.func68, Try.ntmps68
  go_wp2_with fail
  generalize hW : w.alloc (.cells #[.complex .f32 t.a.re t.a.im, .complex .f32 t.b.re t.b.im, .complex .f32 t.c.re t.c.im, .complex .f32 t.d.re t.d.im] 45) = W1
  have s1 : W1.heap.size = w.heap.size + 1 := by subst hW; simp
  have b1 : Below w.heap.size w W1 := by subst hW; exact (Below.refl _ _).alloc (Nat.le_refl _) _
  have t1 : TC W1 w.heap.size t := by subst hW; exact TC.new w 45 t
  clear hW
  generalize hW : W1.alloc (.cells #[.iface 29 (.agg #[.complex .f32 a.a.re a.a.im, .complex .f32 a.b.re a.b.im, .complex .f32 a.c.re a.c.im, .complex .f32 a.d.re a.d.im])] 101) = W2
  have s2 : W2.heap.size = w.heap.size + 1 + 1 := by subst hW; simp [s1]
  have b2 : Below w.heap.size w W2 := by subst hW; exact b1.alloc (by omega) _
  have t2 : TC W2 w.heap.size t := by subst hW; exact t1.alloc _
  have d2 : W2.cell? ⟨w.heap.size + 1, 0, none⟩ = some (.iface 29 (.agg #[.complex .f32 a.a.re a.a.im, .complex .f32 a.b.re a.b.im, .complex .f32 a.c.re a.c.im, .complex .f32 a.d.re a.d.im])) := by subst hW; rw [← s1]; simp [go_sem]
  clear hW b1 t1 s1
  have X2 : Boxes W2 (w.heap.size + 1) w.heap.size a t := ⟨d2, by omega, t2⟩
  have X3 := Lib.hid (X2.below ((Below.refl W2.heap.size W2).alloc (Nat.le_refl _) (.cells #[.complex .f32 0 0, .complex .f32 0 0, .complex .f32 0 0, .complex .f32 0 0] 45)))
  have R3 := Lib.hid (TC.nil W2 45)
  rw [s2] at R3
  have B3 := Lib.hid (b2.alloc (show w.heap.size ≤ W2.heap.size by omega) (.cells #[.complex .f32 0 0, .complex .f32 0 0, .complex .f32 0 0, .complex .f32 0 0] 45))
  clear X2 b2 t2 d2
  refine (HP.out _ _ _ X3.out).mono ?_
  rintro e w4 ⟨rfl, hb4⟩
  obtain ⟨r0, r1, r2, r3, g0, g1, g2, g3, gl⟩ := R3.out.below hb4
  have B4 := Lib.hid (B3.out.trans (hb4.mono B3.out.size))
  clear hb4
  go_wp2_with fail
  refine bodyPost_ret (v := .tuple #[.agg #[.complex .f32 e0.re e0.im, .complex .f32 e1.re e1.im, .complex .f32 e2.re e2.im, .complex .f32 e3.re e3.im], .int .i64 0]) (by simp [results, Try.results68, go_sem, r0, r1, r2, r3, g0, g1, g2, g3, gl]) rfl ⟨rfl, ?_⟩
  repeat first
    | exact B4.out
    | refine Below.setCell ?_ ?_ _
  all_goals first | omega | (simp; done) | (simp; omega)

end Go.Proofs.Ytlglbinalocilaa
