/- Walks: the table of a pulse, of both; the product behind it; the table of a list of pulses, as the program has it. -/
import Derived.Test.YtlglbinalocilaaKaz
namespace Go.Proofs.Ytlglbinalocilaa
open Go.RowKit

set_option maxRecDepth 100000 in
set_option maxHeartbeats 2000000 in
theorem l05Pulse_ok {p : Pu} (hok : okP p = true) (w : World) :
    Calls Try.prog 59 #[.agg #[.int .i64 p.ax, .int .i64 p.ha, .bool p.bk]] w fun e w' => e = .returned (pulseTb p).v ∧ Below w.heap.size w w' := by
  obtain ⟨hax, k, hk, h24⟩ := ok_parts hok
  have HH : Hid (∀ w, Calls Try.prog 78 #[.int .i64 p.ha] w fun e w' => e = .returned (.tuple #[.float .f32 (halved p.ha.toNat).1, .float .f32 (halved p.ha.toNat).2]) ∧ w = w') := Lib.hid (fun w => by
    have := specHalved k w h24
    rw [hk, Int.toNat_natCast]
    exact this)
  have HA := Lib.hid (fun c s w => by have := about_any p.ax c s w hax; rw [← aboutTb_v, four] at this; exact this)
  have HJ := Lib.hid (fun t w => by have := l03Adjoint_any t w; rw [four, four] at this; exact this)
  have hres : pulseTb p = if p.bk then (aboutTb p.ax (halved p.ha.toNat).1 (halved p.ha.toNat).2).adj else aboutTb p.ax (halved p.ha.toNat).1 (halved p.ha.toNat).2 := rfl
  rw [hres, four]
  generalize (halved p.ha.toNat).1 = c at *
  generalize (halved p.ha.toNat).2 = s at *
  have HA1 := Lib.hid (fun w => HA.out c s w)
  generalize aboutTb p.ax c s = T at *
  clear hok hax h24 hres hk HA
  have hp0 := ((PC.new w 64 p).alloc (.cells #[.complex .f32 0 0, .complex .f32 0 0, .complex .f32 0 0, .complex .f32 0 0] 29))
  have hr0 := TC.new (w.alloc (.cells #[.int .i64 p.ax, .int .i64 p.ha, .bool p.bk] 64)) 29 nilTb
  have HP := Lib.hid hp0
  have HR := Lib.hid hr0
  clear hp0 hr0
  go_enter Try.func59, Try.ntmps59
  go_wp2_with fail
  refine (HH.out _).mono ?_
  rintro e w1 ⟨rfl, rfl⟩
  go_wp2_with fail
  refine (HA1.out _).mono ?_
  rintro e w2 ⟨rfl, hb2⟩
  obtain ⟨p0, p1, p2, pl⟩ := HP.out.below hb2
  have RT := Lib.hid (HR.out.below hb2)
  obtain ⟨r0, r1, r2, r3, g0, g1, g2, g3, gl⟩ := RT.out
  simp only [World.size_alloc, nilTb] at r0 r1 r2 r3 g0 g1 g2 g3 gl
  have hsz2 := hb2.size
  simp only [World.size_alloc] at hsz2
  have HB2 := Lib.hid (Below.trans (((Below.refl w.heap.size w).alloc (Nat.le_refl _) _).alloc (by simp) _) (hb2.mono (by simp; omega)))
  clear hb2
  have hn1 : ¬ w.heap.size + 1 = w2.heap.size := by omega
  have hlt1 : w.heap.size + 1 < w2.heap.size := by omega
  cases hbk : p.bk
  · rw [hbk] at p2
    simp only [Bool.false_eq_true, if_false]
    go_wp2_with fail
    all_goals
      obtain ⟨x0, x1, x2, x3, _, _, _, _, _⟩ := (RT.out.put T).alloc (.cells #[.complex .f32 T.a.re T.a.im, .complex .f32 T.b.re T.b.im, .complex .f32 T.c.re T.c.im, .complex .f32 T.d.re T.d.im] 29)
      simp only [World.size_alloc] at x0 x1 x2 x3
      refine bodyPost_ret (v := .agg #[.complex .f32 T.a.re T.a.im, .complex .f32 T.b.re T.b.im, .complex .f32 T.c.re T.c.im, .complex .f32 T.d.re T.d.im]) (by simp [results, Try.results59, go_sem, x0, x1, x2, x3]) rfl ⟨rfl, Below.alloc (Below.put4 HB2.out (by omega) _ _ _ _) (by simp; omega) _⟩
  · rw [hbk] at p2
    simp only [if_true]
    go_wp2_with fail
    refine (HJ.out _ _).mono ?_
    rintro e w3 ⟨rfl, hb3⟩
    have RT3 := Lib.hid ((RT.out.alloc _).below hb3)
    obtain ⟨r0, r1, r2, r3, g0, g1, g2, g3, gl⟩ := RT3.out
    simp only [World.size_alloc, nilTb] at r0 r1 r2 r3 g0 g1 g2 g3 gl
    have hsz3 := hb3.size
    simp only [World.size_alloc] at hsz3
    have hn3 : ¬ w.heap.size + 1 = w3.heap.size := by omega
    have HB3 := Lib.hid (Below.trans (Below.alloc HB2.out (by omega) _) (hb3.mono (by simp; omega)))
    clear hb3
    go_wp2_with fail
    all_goals
      obtain ⟨x0, x1, x2, x3, _, _, _, _, _⟩ := RT3.out.put T.adj
      simp only [World.size_alloc] at x0 x1 x2 x3
      refine bodyPost_ret (v := .agg #[.complex .f32 T.adj.a.re T.adj.a.im, .complex .f32 T.adj.b.re T.adj.b.im, .complex .f32 T.adj.c.re T.adj.c.im, .complex .f32 T.adj.d.re T.adj.d.im]) (by simp [results, Try.results59, go_sem, x0, x1, x2, x3]) rfl ⟨rfl, Below.put4 HB3.out (by omega) _ _ _ _⟩

set_option maxRecDepth 100000 in
set_option maxHeartbeats 2000000 in
theorem pulseTable_ok {p : Pu} (hok : okP p = true) (w : World) :
    Calls Try.prog 72 #[.agg #[.int .i64 p.ax, .int .i64 p.ha, .bool p.bk]] w fun e w' => e = .returned (.tuple #[(pulseTb p).v, .int .i64 0]) ∧ Below w.heap.size w w' := by
  obtain ⟨hax, k, hk, h24⟩ := ok_parts hok
  have HH : Hid (∀ w, Calls Try.prog 93 #[.int .i64 p.ax, .int .i64 p.ha] w fun e w' => e = .returned (.tuple #[(aboutTb p.ax (halved p.ha.toNat).1 (halved p.ha.toNat).2).v, .int .i64 0]) ∧ Below w.heap.size w w') := Lib.hid (fun w => by
    have := implHalvedYes p.ax k w hax h24
    unfold someHalved at this
    rw [hk, Int.toNat_natCast, aboutTb_v]
    exact this)
  have HJ := Lib.hid (fun t w => by have := adjoint_any t w; rw [four, four] at this; exact this)
  have hres : pulseTb p = if p.bk then (aboutTb p.ax (halved p.ha.toNat).1 (halved p.ha.toNat).2).adj else aboutTb p.ax (halved p.ha.toNat).1 (halved p.ha.toNat).2 := rfl
  rw [hres, four]
  generalize aboutTb p.ax (halved p.ha.toNat).1 (halved p.ha.toNat).2 = T at *
  have HH1 := Lib.hid (fun w => by have := HH.out w; rw [four] at this; exact this)
  clear hok hax h24 hres hk HH
  have hp0 := ((PC.new w 64 p).alloc (.cells #[.complex .f32 0 0, .complex .f32 0 0, .complex .f32 0 0, .complex .f32 0 0] 29))
  have hr0 := TC.new (w.alloc (.cells #[.int .i64 p.ax, .int .i64 p.ha, .bool p.bk] 64)) 29 nilTb
  have HP := Lib.hid hp0
  have HR := Lib.hid hr0
  clear hp0 hr0
  go_enter Try.func72, Try.ntmps72
  go_wp2_with fail
  refine (HH1.out _).mono ?_
  rintro e w2 ⟨rfl, hb2⟩
  obtain ⟨p0, p1, p2, pl⟩ := HP.out.below hb2
  have RT := Lib.hid (HR.out.below hb2)
  obtain ⟨r0, r1, r2, r3, g0, g1, g2, g3, gl⟩ := RT.out
  simp only [World.size_alloc, nilTb] at r0 r1 r2 r3 g0 g1 g2 g3 gl
  have hsz2 := hb2.size
  simp only [World.size_alloc] at hsz2
  have HB2 := Lib.hid (Below.trans (((Below.refl w.heap.size w).alloc (Nat.le_refl _) _).alloc (by simp) _) (hb2.mono (by simp; omega)))
  clear hb2
  have hn1 : ¬ w.heap.size + 1 = w2.heap.size := by omega
  have hlt1 : w.heap.size + 1 < w2.heap.size := by omega
  cases hbk : p.bk
  · rw [hbk] at p2
    simp only [Bool.false_eq_true, if_false]
    go_wp2_with fail
    all_goals
      obtain ⟨x0, x1, x2, x3, _, _, _, _, _⟩ := (RT.out.put T).alloc (.cells #[.complex .f32 T.a.re T.a.im, .complex .f32 T.b.re T.b.im, .complex .f32 T.c.re T.c.im, .complex .f32 T.d.re T.d.im] 29)
      simp only [World.size_alloc] at x0 x1 x2 x3
      refine bodyPost_ret (v := .tuple #[.agg #[.complex .f32 T.a.re T.a.im, .complex .f32 T.b.re T.b.im, .complex .f32 T.c.re T.c.im, .complex .f32 T.d.re T.d.im], .int .i64 0]) (by simp [results, Try.results72, go_sem, x0, x1, x2, x3]) rfl ⟨rfl, Below.alloc (Below.put4 HB2.out (by omega) _ _ _ _) (by simp; omega) _⟩
  · rw [hbk] at p2
    simp only [if_true]
    go_wp2_with fail
    refine (HJ.out _ _).mono ?_
    rintro e w3 ⟨rfl, hb3⟩
    have RT3 := Lib.hid ((RT.out.alloc _).below hb3)
    obtain ⟨r0, r1, r2, r3, g0, g1, g2, g3, gl⟩ := RT3.out
    simp only [World.size_alloc, nilTb] at r0 r1 r2 r3 g0 g1 g2 g3 gl
    have hsz3 := hb3.size
    simp only [World.size_alloc] at hsz3
    have hn3 : ¬ w.heap.size + 1 = w3.heap.size := by omega
    have HB3 := Lib.hid (Below.trans (Below.alloc HB2.out (by omega) _) (hb3.mono (by simp; omega)))
    clear hb3
    go_wp2_with fail
    all_goals
      obtain ⟨x0, x1, x2, x3, _, _, _, _, _⟩ := RT3.out.put T.adj
      simp only [World.size_alloc] at x0 x1 x2 x3
      refine bodyPost_ret (v := .tuple #[.agg #[.complex .f32 T.adj.a.re T.adj.a.im, .complex .f32 T.adj.b.re T.adj.b.im, .complex .f32 T.adj.c.re T.adj.c.im, .complex .f32 T.adj.d.re T.adj.d.im], .int .i64 0]) (by simp [results, Try.results72, go_sem, x0, x1, x2, x3]) rfl ⟨rfl, Below.put4 HB3.out (by omega) _ _ _ _⟩

theorem unitTurn_any (w : World) : Calls Try.prog 54 #[] w fun e w' => e = .returned unitI.v ∧ Below w.heap.size w w' := by
  rw [four]
  unfold unitI one32
  go_enter Try.func54, Try.ntmps54
  go_wp2
  refine bodyPost_ret (v := .agg #[.complex .f32 1065353216 0, .complex .f32 0 0, .complex .f32 0 0, .complex .f32 1065353216 0]) (by simp [results, Try.results54, go_sem]) rfl ⟨rfl, ?_⟩
  all_goals repeat first
    | exact Below.refl _ _
    | refine Below.setCell ?_ ?_ _
    | refine Below.alloc ?_ ?_ _
  all_goals first | omega | (simp; done) | (simp; omega)

theorem l03Unit_any (w : World) : Calls Try.prog 57 #[] w fun e w' => e = .returned unitS.v ∧ Below w.heap.size w w' := by
  have HT := Lib.hid (fun w => l03Table_any 1065353216 0 0 0 w)
  rw [← partsTb_v, four] at HT
  rw [four]
  unfold unitS one32
  generalize partsTb 1065353216 0 0 0 = T at *
  go_enter Try.func57, Try.ntmps57
  go_wp2_with fail
  refine (HT.out _).mono ?_
  rintro e w2 ⟨rfl, hb2⟩
  have RT := Lib.hid ((TC.new w 29 nilTb).below hb2)
  obtain ⟨r0, r1, r2, r3, g0, g1, g2, g3, gl⟩ := RT.out
  simp only [nilTb] at r0 r1 r2 r3 g0 g1 g2 g3 gl
  have HB2 := Lib.hid (Below.trans ((Below.refl w.heap.size w).alloc (Nat.le_refl _) _) (hb2.mono (by simp)))
  clear hb2
  go_wp2_with fail
  obtain ⟨x0, x1, x2, x3, _, _, _, _, _⟩ := RT.out.put T
  refine bodyPost_ret (v := .agg #[.complex .f32 T.a.re T.a.im, .complex .f32 T.b.re T.b.im, .complex .f32 T.c.re T.c.im, .complex .f32 T.d.re T.d.im]) (by simp [results, Try.results57, go_sem, x0, x1, x2, x3]) rfl ⟨rfl, Below.put4 HB2.out (Nat.le_refl _) _ _ _ _⟩

set_option maxRecDepth 100000 in
set_option maxHeartbeats 2000000 in
theorem behind_ok {p : Pu} {t : Tb} (hok : okP p = true) (hm : MulOk (pulseTb p) t) (w : World) :
    Calls Try.prog 55 #[.agg #[.int .i64 p.ax, .int .i64 p.ha, .bool p.bk], .agg #[.complex .f32 t.a.re t.a.im, .complex .f32 t.b.re t.b.im, .complex .f32 t.c.re t.c.im, .complex .f32 t.d.re t.d.im]] w fun e w' => e = .returned (.tuple #[.agg #[.complex .f32 ((pulseTb p).mul t).a.re ((pulseTb p).mul t).a.im, .complex .f32 ((pulseTb p).mul t).b.re ((pulseTb p).mul t).b.im, .complex .f32 ((pulseTb p).mul t).c.re ((pulseTb p).mul t).c.im, .complex .f32 ((pulseTb p).mul t).d.re ((pulseTb p).mul t).d.im], .int .i64 0]) ∧ Below w.heap.size w w' := by
  have HT := Lib.hid (fun w => by have := pulseTable_ok hok w; rw [four] at this; exact this)
  have HM := Lib.hid (fun w => by have := times_ok hm w; rw [four, four, four] at this; exact this)
  generalize (pulseTb p).mul t = M at *
  generalize pulseTb p = T at *
  clear hok hm
  have HR := Lib.hid (TC.new ((w.alloc (.cells #[.int .i64 p.ax, .int .i64 p.ha, .bool p.bk] 64)).alloc (.cells #[.complex .f32 t.a.re t.a.im, .complex .f32 t.b.re t.b.im, .complex .f32 t.c.re t.c.im, .complex .f32 t.d.re t.d.im] 29)) 29 nilTb)
  have HA := Lib.hid ((TC.new (w.alloc (.cells #[.int .i64 p.ax, .int .i64 p.ha, .bool p.bk] 64)) 29 t).alloc (.cells #[.complex .f32 0 0, .complex .f32 0 0, .complex .f32 0 0, .complex .f32 0 0] 29))
  go_enter Try.func55, Try.ntmps55
  go_wp2_with fail
  refine (HT.out _).mono ?_
  rintro e w2 ⟨rfl, hb2⟩
  have RT := Lib.hid (HR.out.below hb2)
  have AT := Lib.hid (HA.out.below hb2)
  obtain ⟨r0, r1, r2, r3, g0, g1, g2, g3, gl⟩ := RT.out
  obtain ⟨a0, a1, a2, a3, b0, b1, b2, b3, bl⟩ := AT.out
  simp only [World.size_alloc, nilTb] at r0 r1 r2 r3 g0 g1 g2 g3 gl a0 a1 a2 a3 b0 b1 b2 b3 bl
  have hsz2 := hb2.size
  simp only [World.size_alloc] at hsz2
  have HB2 := Lib.hid (Below.trans ((((Below.refl w.heap.size w).alloc (Nat.le_refl _) _).alloc (by simp) _).alloc (by simp; omega) _) (hb2.mono (by simp; omega)))
  clear hb2
  have hn1 : ¬ w.heap.size + 1 = w2.heap.size := by omega
  have hn2 : ¬ w.heap.size + 1 + 1 = w2.heap.size := by omega
  go_wp2_with fail
  refine (HM.out _).mono ?_
  rintro e w3 ⟨rfl, hb3⟩
  have RT3 := Lib.hid ((RT.out.alloc _).below hb3)
  obtain ⟨r0, r1, r2, r3, g0, g1, g2, g3, gl⟩ := RT3.out
  simp only [World.size_alloc, nilTb] at r0 r1 r2 r3 g0 g1 g2 g3 gl
  have HB3 := Lib.hid (Below.trans (Below.alloc HB2.out (by omega) _) (hb3.mono (by simp; omega)))
  clear hb3
  go_wp2_with fail
  all_goals
    obtain ⟨x0, x1, x2, x3, _, _, _, _, _⟩ := RT3.out.put M
    simp only [World.size_alloc] at x0 x1 x2 x3
    refine bodyPost_ret (v := .tuple #[.agg #[.complex .f32 M.a.re M.a.im, .complex .f32 M.b.re M.b.im, .complex .f32 M.c.re M.c.im, .complex .f32 M.d.re M.d.im], .int .i64 0]) (by simp [results, Try.results55, go_sem, x0, x1, x2, x3]) rfl ⟨rfl, Below.put4 HB3.out (by omega) _ _ _ _⟩

theorem TC.far1 {W : World} {B b i : Nat} {t : Tb} (h : TC W B t) (hne : b ≠ B) (v : Value) : TC (W.setCell ⟨b, i, none⟩ v) B t :=
  ⟨(World.cell?_setCell_far W ⟨b, i, none⟩ ⟨B, 0, none⟩ v hne).trans h.c0, (World.cell?_setCell_far W ⟨b, i, none⟩ ⟨B, 1, none⟩ v hne).trans h.c1, (World.cell?_setCell_far W ⟨b, i, none⟩ ⟨B, 2, none⟩ v hne).trans h.c2, (World.cell?_setCell_far W ⟨b, i, none⟩ ⟨B, 3, none⟩ v hne).trans h.c3,
   by simp [h.f0], by simp [h.f1], by simp [h.f2], by simp [h.f3], by have := h.lt; simpa using this⟩

theorem TC.far {W : World} {B b : Nat} {t : Tb} (h : TC W B t) (hne : b ≠ B) (x y z v : Value) : TC ((((W.setCell ⟨b, 0, none⟩ x).setCell ⟨b, 1, none⟩ y).setCell ⟨b, 2, none⟩ z).setCell ⟨b, 3, none⟩ v) B t :=
  (((h.far1 hne x).far1 hne y).far1 hne z).far1 hne v

theorem mul_ok_of {n k : Nat} {P : Nat → Pu} (hok : ∀ i, i < n → okP (P i) = true) (hk : k < n) (h60 : n ≤ 60) : MulOk (pulseTb (P k)) (tabI P k) ∧ MulOk (pulseTb (P k)) (tabS P k) := by
  obtain ⟨h1, _, h3⟩ := tabs_ok hok k (by omega) (by omega)
  have hp := pulse_pls (hok k hk)
  exact ⟨(mul_pls hp h3 (by omega)).1, (mul_pls hp h1 (by omega)).1⟩

set_option maxRecDepth 100000 in
set_option maxHeartbeats 4000000 in
theorem renewed_ok {w : World} {b off cap n : Nat} {P : Nat → Pu} (h : Rd w (.slice (some ⟨b, off, none⟩) n cap) n P) (hn : n ≤ 60) (hs : seqB n P = true) :
    Calls Try.prog 27 #[.slice (some ⟨b, off, none⟩) n cap, .int .i64 61] w fun e w' => e = .returned (.tuple #[.agg #[.complex .f32 (tabI P n).a.re (tabI P n).a.im, .complex .f32 (tabI P n).b.re (tabI P n).b.im, .complex .f32 (tabI P n).c.re (tabI P n).c.im, .complex .f32 (tabI P n).d.re (tabI P n).d.im], .int .i64 0]) ∧ Below w.heap.size w w' := by
  have HOK := Lib.hid (fun i (hi : i < n) => by
    have := hs
    unfold seqB at this
    simp only [Bool.and_eq_true, List.all_eq_true, List.mem_range] at this
    exact this.1 i hi)
  have hw0 : Below w.heap.size w (w.alloc (.cells #[.complex .f32 0 0, .complex .f32 0 0, .complex .f32 0 0, .complex .f32 0 0] 29)) := (Below.refl _ _).alloc (Nat.le_refl _) _
  have HI := Lib.hid (implIs_ok (rd_below h hw0) (by omega))
  rw [hs] at HI
  have HU := Lib.hid (fun w => by have := unitTurn_any w; rw [four] at this; exact this)
  have HR := Lib.hid (TC.new w 29 nilTb)
  obtain ⟨a, cap', hv, h⟩ := h
  injection hv with q1 _ q3
  subst q1 q3
  go_enter Try.func27, Try.ntmps27
  go_wp2_with fail
  refine HI.out.mono ?_
  rintro e w1 ⟨rfl, hb1⟩
  have HB1 := Lib.hid (hw0.trans (hb1.mono (by simp)))
  have R1 := Lib.hid (HR.out.below hb1)
  clear hb1 hw0
  go_wp2_with fail
  refine (HU.out _).mono ?_
  rintro e w2 ⟨rfl, hb2⟩
  have HB2 := Lib.hid (HB1.out.trans (hb2.mono HB1.out.size))
  have R2 := Lib.hid (R1.out.below hb2)
  have hlt2 := R2.out.lt
  clear hb2
  go_wp2_with fail
  have T2 := Lib.hid (TC.new w2 29 unitI)
  have hBne : w.heap.size < w2.heap.size := hlt2
  generalize hB : w2.heap.size = B at *
  have HBB := Lib.hid hB
  clear hB hlt2
  go_loopw [21] (fun i wr => ∃ k : Nat, i = .int .i64 k ∧ k ≤ n ∧ Below w.heap.size w wr ∧ TC wr w.heap.size nilTb ∧ TC wr B (tabI P k)) (fun i _ => n - (intOf i).toNat)
  case atStart => exact ⟨0, rfl, Nat.zero_le _, HB2.out.alloc (by rw [HBB.out]; omega) _, R2.out.alloc _, T2.out⟩
  case round =>
    obtain ⟨k, rfl, hk, hb, hr, ht⟩ := hrel
    by_cases hlt : k < n
    · obtain ⟨b', off', q5, hl, hc⟩ := h (by omega)
      injection q5 with q5
      injection q5 with q6 q7
      subst q6 q7
      obtain ⟨c0, c1, c2⟩ := hc k hlt
      rw [← hb.cell (p := ⟨b, _, none⟩) hl] at c0 c1 c2
      have hl2 : b < wr.heap.size := Nat.lt_of_lt_of_le hl hb.size
      have hlt' : (k : Int) < (n : Int) := by omega
      have HM := Lib.hid (behind_ok (HOK.out k hlt) (mul_ok_of HOK.out hlt hn).1)
      have HTAB : Hid (tabI P (k + 1) = (pulseTb (P k)).mul (tabI P k)) := Lib.hid rfl
      have hrem : Int.tmod ((k : Int) + 1) 61 = (k : Int) + 1 := Int.tmod_eq_of_lt (by omega) (by omega)
      have hne0 : ¬ ((k : Int) + 1) = 0 := by omega
      have HT := Lib.hid ht
      obtain ⟨t0, t1, t2, t3, s0, s1, s2, s3, tl⟩ := ht
      have HRr := Lib.hid hr
      have HB := Lib.hid hb
      generalize tabI P k = T at *
      generalize (pulseTb (P k)).mul T = M at *
      clear hb hr hc h
      go_wp2_with fail
      refine (HM.out _).mono ?_
      rintro e w3 ⟨rfl, hb3⟩
      have T3 := Lib.hid ((HT.out.alloc _).below hb3)
      have R3 := Lib.hid ((HRr.out.alloc _).below hb3)
      obtain ⟨t0, t1, t2, t3, s0, s1, s2, s3, tl⟩ := T3.out
      have HB3 := Lib.hid (Below.trans (Below.alloc HB.out (by have := HB.out.size; omega) _) (hb3.mono (by have := HB.out.size; simp; omega)))
      clear hb3
      have hnB : ¬ B = w3.heap.size := by omega
      go_wp2_with fail
      all_goals
        refine ⟨⟨k + 1, by go_num, by omega, Below.alloc (Below.put4 HB3.out (by omega) _ _ _ _) (by have := HB3.out.size; simp; omega) _, (R3.out.far (by omega) _ _ _ _).alloc _, ?_⟩, ?_⟩
        · rw [HTAB.out]
          exact (T3.out.put M).alloc _
        · simp [intOf]; omega
    · have he : k = n := by omega
      subst he
      have hlt' : ¬ ((k : Int) < (k : Int)) := by omega
      have HB := Lib.hid hb
      have HRr := Lib.hid hr
      obtain ⟨t0, t1, t2, t3, s0, s1, s2, s3, tl⟩ := ht
      obtain ⟨r0, r1, r2, r3, g0, g1, g2, g3, gl⟩ := hr
      simp only [nilTb] at r0 r1 r2 r3
      clear hb h
      go_wp2_with fail
      all_goals
        obtain ⟨x0, x1, x2, x3, _, _, _, _, _⟩ := HRr.out.put (tabI P k)
        refine bodyPost_ret (v := .tuple #[.agg #[.complex .f32 (tabI P k).a.re (tabI P k).a.im, .complex .f32 (tabI P k).b.re (tabI P k).b.im, .complex .f32 (tabI P k).c.re (tabI P k).c.im, .complex .f32 (tabI P k).d.re (tabI P k).d.im], .int .i64 0]) (by simp [results, Try.results27, go_sem, x0, x1, x2, x3]) rfl ⟨rfl, Below.put4 HB.out (Nat.le_refl _) _ _ _ _⟩

set_option maxRecDepth 100000 in
set_option maxHeartbeats 1000000 in
theorem tableOf_ok {w : World} {b off cap n : Nat} {P : Nat → Pu} (h : Rd w (.slice (some ⟨b, off, none⟩) n cap) n P) (hn : n ≤ 60) (hs : seqB n P = true) :
    Calls Try.prog 8 #[.slice (some ⟨b, off, none⟩) n cap] w fun e w' => e = .returned (.tuple #[.agg #[.complex .f32 (tabI P n).a.re (tabI P n).a.im, .complex .f32 (tabI P n).b.re (tabI P n).b.im, .complex .f32 (tabI P n).c.re (tabI P n).c.im, .complex .f32 (tabI P n).d.re (tabI P n).d.im], .int .i64 0]) ∧ Below w.heap.size w w' := by
  have hw0 : Below w.heap.size w (w.alloc (.cells #[.complex .f32 0 0, .complex .f32 0 0, .complex .f32 0 0, .complex .f32 0 0] 29)) := (Below.refl _ _).alloc (Nat.le_refl _) _
  have HN := Lib.hid (renewed_ok (rd_below h hw0) hn hs)
  have HR := Lib.hid (TC.new w 29 nilTb)
  generalize tabI P n = M at *
  clear h
  go_enter Try.func8, Try.ntmps8
  go_wp2_with fail
  refine HN.out.mono ?_
  rintro e w1 ⟨rfl, hb1⟩
  have R1 := Lib.hid (HR.out.below hb1)
  obtain ⟨r0, r1, r2, r3, g0, g1, g2, g3, gl⟩ := R1.out
  simp only [nilTb] at r0 r1 r2 r3
  have HB1 := Lib.hid (hw0.trans (hb1.mono (by simp)))
  clear hb1 hw0
  go_wp2_with fail
  all_goals
    obtain ⟨x0, x1, x2, x3, _, _, _, _, _⟩ := R1.out.put M
    refine bodyPost_ret (v := .tuple #[.agg #[.complex .f32 M.a.re M.a.im, .complex .f32 M.b.re M.b.im, .complex .f32 M.c.re M.c.im, .complex .f32 M.d.re M.d.im], .int .i64 0]) (by simp [results, Try.results8, go_sem, x0, x1, x2, x3]) rfl ⟨rfl, Below.put4 HB1.out (Nat.le_refl _) _ _ _ _⟩

end Go.Proofs.Ytlglbinalocilaa
