/- Walks: what a table makes of a vector, of the program: TurnVector. Walks: one of some numbers is drawn. -/
import Derived.Test.YtlglbinalocilaaKbg
import Derived.Test.YtlglbinalocilaaKaa
namespace Go.Proofs.Ytlglbinalocilaa
open Go.RowKit

set_option maxRecDepth 100000 in
set_option maxHeartbeats 4000000 in
theorem turnVector_ok {a : Tb} {x y z : Nat} (ha : TB 60 a) (hv : TB 2 (vecTb x y z)) (hx : x < 4294967296 ∧ fin x = true) (hy : y < 4294967296 ∧ fin y = true) (hz : z < 4294967296 ∧ fin z = true) (w : World) :
    Calls Try.prog 14 #[.agg #[.complex .f32 a.a.re a.a.im, .complex .f32 a.b.re a.b.im, .complex .f32 a.c.re a.c.im, .complex .f32 a.d.re a.d.im], .agg #[.float .f32 x, .float .f32 y, .float .f32 z]] w fun e w' => e = .returned (.tuple #[.agg #[.float .f32 (madeOf a (vecTb x y z)).c.re, .float .f32 (madeOf a (vecTb x y z)).c.im, .float .f32 (madeOf a (vecTb x y z)).a.re], .int .i64 0]) ∧ Below w.heap.size w w' := by
  have HI := Lib.hid (fun w => by have := isTable_ok (tb_tf (k := 60) ha (by omega)) w; rw [four] at this; exact this)
  have HV := Lib.hid (fun w => by have := isVector_any x y z w hx.1 hy.1 hz.1; rw [hx.2, hy.2, hz.2] at this; exact this)
  have HT := Lib.hid (fun w => by have := turnOfVector_any x y z w; rw [four] at this; exact this)
  have HJ := Lib.hid (fun w => by have := adjoint_any a w; rw [four, four] at this; exact this)
  obtain ⟨h1, h2, _⟩ := made_ok ha hv
  have HM := Lib.hid (fun (w : World) (b : Nat) (h : TT w b (vecTb x y z) a.adj) => timesAll_ok h h1 h2)
  have hm : Hid (prods a (vecTb x y z) a.adj 2 = madeOf a (vecTb x y z)) := Lib.hid rfl
  rw [hm.out] at HM
  clear ha hv hx hy hz h1 h2
  generalize madeOf a (vecTb x y z) = M at *
  generalize vecTb x y z = V at *
  generalize a.adj = J at *
  have a0 := ((TC.new w 29 a).alloc (.cells #[.float .f32 x, .float .f32 y, .float .f32 z] 41)).alloc (.cells #[.float .f32 0, .float .f32 0, .float .f32 0] 41)
  have v0 := (VC.new (w.alloc (.cells #[.complex .f32 a.a.re a.a.im, .complex .f32 a.b.re a.b.im, .complex .f32 a.c.re a.c.im, .complex .f32 a.d.re a.d.im] 29)) 41 x y z).alloc (.cells #[.float .f32 0, .float .f32 0, .float .f32 0] 41)
  have r0 := VC.new ((w.alloc (.cells #[.complex .f32 a.a.re a.a.im, .complex .f32 a.b.re a.b.im, .complex .f32 a.c.re a.c.im, .complex .f32 a.d.re a.d.im] 29)).alloc (.cells #[.float .f32 x, .float .f32 y, .float .f32 z] 41)) 41 0 0 0
  have b0 := (((Below.refl w.heap.size w).alloc (Nat.le_refl _) (.cells #[.complex .f32 a.a.re a.a.im, .complex .f32 a.b.re a.b.im, .complex .f32 a.c.re a.c.im, .complex .f32 a.d.re a.d.im] 29)).alloc (by simp) (.cells #[.float .f32 x, .float .f32 y, .float .f32 z] 41)).alloc (by simp; omega) (.cells #[.float .f32 0, .float .f32 0, .float .f32 0] 41)
  rw [World.size_alloc] at v0
  rw [World.size_alloc, World.size_alloc] at r0
  have A0 := Lib.hid a0
  have V0 := Lib.hid v0
  have R0 := Lib.hid r0
  have B0 := Lib.hid b0
  clear a0 v0 r0 b0
  go_enter Try.func14, Try.ntmps14
  go_wp2_with fail
  refine (HI.out _).mono ?_
  rintro e w1 ⟨rfl, hb1⟩
  have A1 := Lib.hid (A0.out.below hb1)
  have V1 := Lib.hid (V0.out.below hb1)
  have R1 := Lib.hid (R0.out.below hb1)
  have B1 := Lib.hid (B0.out.trans (hb1.mono B0.out.size))
  obtain ⟨v0, v1, v2, _, _, _, _⟩ := V1.out
  clear hb1
  go_wp2_with fail
  refine (HV.out _).mono ?_
  rintro e w2 ⟨rfl, hb2⟩
  have A2 := Lib.hid (A1.out.below hb2)
  have V2 := Lib.hid (V1.out.below hb2)
  have R2 := Lib.hid (R1.out.below hb2)
  have B2 := Lib.hid (B1.out.trans (hb2.mono B1.out.size))
  clear hb2 v0 v1 v2
  obtain ⟨a0, a1, a2, a3, _, _, _, _, al⟩ := A2.out
  obtain ⟨v0, v1, v2, _, _, _, vl⟩ := V2.out
  have rl := R2.out.lt
  have n2d : ¬ w.heap.size + 1 + 1 = w2.heap.size := (by omega)
  have m2d : ¬ w2.heap.size = w.heap.size + 1 + 1 := (by omega)
  have n2a : ¬ w.heap.size = w2.heap.size := (by omega)
  have n2b : ¬ w.heap.size + 1 = w2.heap.size := (by omega)
  have n2c : ¬ w.heap.size = w2.heap.size + 1 := (by omega)
  have m2a : ¬ w2.heap.size = w.heap.size := (by omega)
  have m2b : ¬ w2.heap.size = w.heap.size + 1 := (by omega)
  have m2c : ¬ w2.heap.size + 1 = w.heap.size := (by omega)
  go_wp2_with fail
  go_region_held3 (fun w' => w'.cell? ⟨w.heap.size, 0, none⟩ = some (.complex .f32 a.a.re a.a.im) ∧ w'.cell? ⟨w.heap.size, 1, none⟩ = some (.complex .f32 a.b.re a.b.im) ∧ w'.cell? ⟨w.heap.size, 2, none⟩ = some (.complex .f32 a.c.re a.c.im) ∧ w'.cell? ⟨w.heap.size, 3, none⟩ = some (.complex .f32 a.d.re a.d.im) ∧ w'.cell? ⟨w.heap.size + 1, 0, none⟩ = some (.float .f32 x) ∧ w'.cell? ⟨w.heap.size + 1, 1, none⟩ = some (.float .f32 y) ∧ w'.cell? ⟨w.heap.size + 1, 2, none⟩ = some (.float .f32 z)) (go_keep)
    ((first
      | (go_at_call 37; refine (HT.out _).mono ?_; rintro e w3 ⟨rfl, hb3⟩; have hb3' := below_step hb3 (show Below w2.heap.size w2 _ by first | exact (Below.refl w2.heap.size w2).drew | exact ((Below.refl w2.heap.size w2).drew.alloc (Nat.le_refl _) _)) (by simp); have HB3 := Lib.hid hb3'; obtain ⟨d0, d1, d2, d3, _, _, _, _, _⟩ := A2.out.below hb3'; obtain ⟨e0, e1, e2, _, _, _, _⟩ := V2.out.below hb3'; have hl3 := hb3'.size; have n3a : ¬ w.heap.size = w3.heap.size := (by omega); have n3b : ¬ w.heap.size + 1 = w3.heap.size := (by omega); have n3c : ¬ w.heap.size = w3.heap.size + 1 := (by omega); have m3a : ¬ w3.heap.size = w.heap.size := (by omega); have m3b : ¬ w3.heap.size = w.heap.size + 1 := (by omega); have n3d : ¬ w.heap.size + 1 + 1 = w3.heap.size := (by omega); have m3d : ¬ w3.heap.size = w.heap.size + 1 + 1 := (by omega); have m3c : ¬ w3.heap.size + 1 = w.heap.size := (by omega); obtain ⟨hc3, hf3⟩ := bcell hb3; (first | (have hq3 : w2.heap.size < w3.heap.size := (by have h := hb3.size; simp at h; omega)) | skip); (first | (have X6 := Lib.hid (show TC w3 w2.heap.size nilTb from (TC.new w2.drew 29 nilTb).below hb3)) | skip); clear hb3 hb3')
      | (go_at_call 34; refine (HJ.out _).mono ?_; rintro e w4 ⟨rfl, hb4⟩; have hb4' := below_step hb4 (show Below w2.heap.size w2 _ by first | exact HB3.out | exact HB3.out.alloc hl3 _) (by first | omega | (simp; omega)); have HB4 := Lib.hid hb4'; obtain ⟨d0, d1, d2, d3, _, _, _, _, _⟩ := A2.out.below hb4'; obtain ⟨e0, e1, e2, _, _, _, _⟩ := V2.out.below hb4'; have hl4 := hb4'.size; have n4a : ¬ w.heap.size = w4.heap.size := (by omega); have n4b : ¬ w.heap.size + 1 = w4.heap.size := (by omega); have n4c : ¬ w.heap.size = w4.heap.size + 1 := (by omega); have m4a : ¬ w4.heap.size = w.heap.size := (by omega); have m4b : ¬ w4.heap.size = w.heap.size + 1 := (by omega); have n4d : ¬ w.heap.size + 1 + 1 = w4.heap.size := (by omega); have m4d : ¬ w4.heap.size = w.heap.size + 1 + 1 := (by omega); have m4c : ¬ w4.heap.size + 1 = w.heap.size := (by omega); obtain ⟨hc4, hf4⟩ := bcell hb4; have hq4a : w2.heap.size < w4.heap.size + 1 := (by omega); have hq4b : w3.heap.size < w4.heap.size + 1 := (by have h := hb4.size; first | omega | (simp at h; omega)); (first | (have hq4c : w2.heap.size < w4.heap.size := (by have h := hb4.size; first | omega | (simp at h; omega))) | skip); (first | (have hq4d : w3.heap.size < w4.heap.size := (by have h := hb4.size; first | omega | (simp at h; omega))) | skip); (first | (have X6 := Lib.hid (X6.out.below hb4)) | (have X6 := Lib.hid ((TC.new w3 29 nilTb).below hb4)) | skip); clear hb4 hb4')
      | (go_at_call 36; refine (HM.out _ _ (by first | exact TT.at _ _ _ _ _ (by simp) | exact (TT.at _ _ _ _ _ (by simp)).alloc _)).mono ?_; rintro e w5 ⟨rfl, hb5⟩; have hb5' := below_step hb5 (show Below w2.heap.size w2 _ by first | exact HB4.out.alloc hl4 _ | exact (HB4.out.alloc hl4 _).alloc (by first | omega | (simp; omega)) _) (by first | omega | (simp; omega)); have HB5 := Lib.hid hb5'; obtain ⟨d0, d1, d2, d3, _, _, _, _, _⟩ := A2.out.below hb5'; obtain ⟨e0, e1, e2, _, _, _, _⟩ := V2.out.below hb5'; obtain ⟨r0, r1, r2, g0, g1, g2, gl⟩ := R2.out.below hb5'; have hl5 := hb5'.size; have n5a : ¬ w.heap.size = w5.heap.size := (by omega); have n5b : ¬ w.heap.size + 1 = w5.heap.size := (by omega); have n5c : ¬ w.heap.size = w5.heap.size + 1 := (by omega); have m5a : ¬ w5.heap.size = w.heap.size := (by omega); have m5b : ¬ w5.heap.size = w.heap.size + 1 := (by omega); have n5d : ¬ w.heap.size + 1 + 1 = w5.heap.size := (by omega); have m5d : ¬ w5.heap.size = w.heap.size + 1 + 1 := (by omega); have m5c : ¬ w5.heap.size + 1 = w.heap.size := (by omega); obtain ⟨hc5, hf5⟩ := bcell hb5; (first | (have X6 := Lib.hid ((X6.out.alloc _).below hb5)) | (have X6 := Lib.hid (((TC.new w4 29 nilTb).alloc _).below hb5)) | (have X6 := Lib.hid ((TC.new _ 29 nilTb).below hb5)) | skip); have RR5 := Lib.hid (R2.out.below hb5'); clear hb5 hb5')))
  all_goals
    have HZ := Lib.hid (below_step HB5.out B2.out (by omega))
    first
      | refine world_cut (X6.out.put M) (RR5.out.far (by first | omega | (simp; omega)) _ _ _ _) (Below.put4 HZ.out (by first | omega | (simp; omega)) _ _ _ _) ?_
      | refine world_cut ((show TC w5 (w4.heap.size + 1) nilTb by have h := X6.out; rw [World.size_alloc] at h; exact h).put M) (RR5.out.far (by first | omega | (simp; omega)) _ _ _ _) (Below.put4 HZ.out (by first | omega | (simp; omega)) _ _ _ _) ?_
      | refine world_cut (TC.new w5 29 M) (RR5.out.alloc _) (Below.alloc HZ.out (by omega) _) ?_
    have hl5 := HZ.out.size
    clear hm A0 V0 R0 B0 A1 V1 R1 B1 A2 V2 R2 B2 HB3 HB4 HB5 HM HT HJ HI HV RR5 hc3 hf3 hc4 hf4 hc5 hf5
    intro W7 T7 R7 B7
    have RR7 := Lib.hid R7
    have BB7 := Lib.hid B7
    obtain ⟨t0, t1, t2, t3, _, _, _, _, _⟩ := T7
    obtain ⟨r0, r1, r2, g0, g1, g2, gl⟩ := R7
    clear B7
    go_wp2_with fail
    refine bodyPost_ret (v := .tuple #[.agg #[.float .f32 M.c.re, .float .f32 M.c.im, .float .f32 M.a.re], .int .i64 0]) (by simp [r0, r1, r2, g0, g1, g2, gl, results, Try.results14, go_sem]) rfl ⟨rfl, ?_⟩
    repeat first
      | exact BB7.out
      | refine Below.setCell ?_ ?_ _
    all_goals first | omega | (simp; done) | (simp; omega)

end Go.Proofs.Ytlglbinalocilaa

namespace Go.Proofs.Ytlglbinalocilaa
open Go.RowKit

def PickPost (W0 : World) (c : Value) (len B : Nat) (P : Int → Prop) (w : World) (e : Ending) (w' : World) : Prop := ∃ x : Int, e = .returned (.int .i64 x) ∧ P x ∧ Src W0 c len B w' ∧ Only B w w'

theorem only_cell {B : Nat} {w w' : World} (h : Only B w w') {p : Addr} (hp : p.block ≠ B) : w'.cell? p = w.cell? p := World.cell?_of_block (w := w) (h.2 p.block hp)

set_option maxHeartbeats 400000 in
theorem pick_any (W0 : World) (c : Value) (len B : Nat) (P : Int → Prop) (L k : Nat) (w : World) (hcode : Code W0 c len) (hlen : (len : Int) ≤ 4096) (hs : Src W0 c len B w) (hLB : L ≠ B) (hk : 1 ≤ (k : Int)) (hk2 : (k : Int) < 2147483648)
    (hcells : ∀ j : Int, 0 ≤ j → j < (k : Int) → ∃ v : Int, w.cell? ⟨L, 0 + j.toNat, none⟩ = some (.int .i64 v) ∧ P v) :
    Calls Try.prog 52 #[.pointer (some ⟨B, 0, none⟩), .slice (some ⟨L, 0, none⟩) k k] w (PickPost W0 c len B P w) := by
  have HC := Lib.hid hcells
  have HL := Lib.hid hLB
  have HS := Lib.hid hs
  have HCode := Lib.hid hcode
  clear hcells hLB hs hcode
  go_enter Try.func52, Try.ntmps52
  go_wp2_with fail
  refine (next_any W0 c len B _ _ HCode.out hlen HS.out hk hk2).mono ?_
  rintro e w1 ⟨x, rfl, hx0, hx1, hs1, ho1⟩
  obtain ⟨v, hv, hp⟩ := HC.out x hx0 hx1
  have hv1 : w1.cell? ⟨L, 0 + x.toNat, none⟩ = some (.int .i64 v) := by rw [only_cell ho1 (p := ⟨L, 0 + x.toNat, none⟩) HL.out]; exact hv
  have hv2 : w1.cell? ⟨L, x.toNat, none⟩ = some (.int .i64 v) := by rw [Nat.zero_add] at hv1; exact hv1
  have HP := Lib.hid hp
  have HO1 := Lib.hid ho1
  have HS1 := Lib.hid hs1
  have HV := Lib.hid hv
  clear hv hp ho1 hs1
  go_wp2_with fail
  go_ret
  exact ⟨_, rfl, HP.out, HS1.out, HO1.out⟩

theorem Src.alloc {W0 : World} {c : Value} {len B : Nat} {w : World} (h : Src W0 c len B w) (o : Obj) : Src W0 c len B (w.alloc o) := by
  obtain ⟨a, b, d, e, ⟨i, g, f1, f2, f3, f4⟩, f5, f6⟩ := h
  have hne : ∀ o' : Nat, (⟨B, o', none⟩ : Addr).block ≠ w.heap.size := fun _ => by show B ≠ w.heap.size; omega
  refine ⟨a.alloc a.size _, b, by simp; omega, ?_, ⟨i, g, ?_, ?_, f3, f4⟩, ?_, ?_⟩
  · rw [World.cell?_alloc_old (h := hne 0)]; exact e
  · rw [World.cell?_alloc_old (h := hne 1)]; exact f1
  · rw [World.cell?_alloc_old (h := hne 2)]; exact f2
  · rw [((Below.refl w.heap.size w).alloc (Nat.le_refl _) o).frozen (p := ⟨B, 1, none⟩) d]; exact f5
  · rw [((Below.refl w.heap.size w).alloc (Nat.le_refl _) o).frozen (p := ⟨B, 2, none⟩) d]; exact f6

end Go.Proofs.Ytlglbinalocilaa
