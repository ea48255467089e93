/- Walks: the product of a table and four others, of the program. -/
import Derived.Test.YtlmhibeimfkpiaaG5
import Derived.LoopTactic
namespace Go.Proofs.Ytlmhibeimfkpiaa
open Go.RowKit

def prod4 (a s t u v : Tb) : Nat → Tb
  | 0 => a
  | 1 => a.mul s
  | 2 => (a.mul s).mul t
  | 3 => ((a.mul s).mul t).mul u
  | _ => (((a.mul s).mul t).mul u).mul v

theorem prod4_0 (a s t u v : Tb) : prod4 a s t u v 0 = a := rfl
theorem prod4_1 (a s t u v : Tb) : prod4 a s t u v 1 = a.mul s := rfl
theorem prod4_2 (a s t u v : Tb) : prod4 a s t u v 2 = (a.mul s).mul t := rfl
theorem prod4_3 (a s t u v : Tb) : prod4 a s t u v 3 = ((a.mul s).mul t).mul u := rfl
theorem prod4_4 (a s t u v : Tb) : prod4 a s t u v 4 = (((a.mul s).mul t).mul u).mul v := rfl

set_option maxRecDepth 100000 in
set_option maxHeartbeats 4000000 in
theorem timesAll4_ok {a s t u v : Tb} {b : Nat} {w : World} (h : FC w b s t u v) (h0 : MulOk a s) (h1 : MulOk (a.mul s) t) (h2 : MulOk ((a.mul s).mul t) u) (h3 : MulOk (((a.mul s).mul t).mul u) v) :
    Calls Try.prog 77 #[.agg #[.complex .f32 a.a.re a.a.im, .complex .f32 a.b.re a.b.im, .complex .f32 a.c.re a.c.im, .complex .f32 a.d.re a.d.im], .slice (some ⟨b, 0, none⟩) 4 4] w fun e w' => e = .returned (.tuple #[.agg #[.complex .f32 (prod4 a s t u v 4).a.re (prod4 a s t u v 4).a.im, .complex .f32 (prod4 a s t u v 4).b.re (prod4 a s t u v 4).b.im, .complex .f32 (prod4 a s t u v 4).c.re (prod4 a s t u v 4).c.im, .complex .f32 (prod4 a s t u v 4).d.re (prod4 a s t u v 4).d.im], .int .i64 0]) ∧ Below w.heap.size w w' := by
  have M0 := Lib.hid (fun w => by have := times_ok h0 w; rw [four, four, four] at this; exact this)
  have M1 := Lib.hid (fun w => by have := times_ok h1 w; rw [four, four, four] at this; exact this)
  have M2 := Lib.hid (fun w => by have := times_ok h2 w; rw [four, four, four] at this; exact this)
  have M3 := Lib.hid (fun w => by have := times_ok h3 w; rw [four, four, four] at this; exact this)
  have HTT := Lib.hid h
  have hr0 := ((TC.new (w.alloc (.cells #[.complex .f32 a.a.re a.a.im, .complex .f32 a.b.re a.b.im, .complex .f32 a.c.re a.c.im, .complex .f32 a.d.re a.d.im] 33)) 33 nilTb).alloc (.cells #[.complex .f32 a.a.re a.a.im, .complex .f32 a.b.re a.b.im, .complex .f32 a.c.re a.c.im, .complex .f32 a.d.re a.d.im] 33))
  have hp0 := (TC.new ((w.alloc (.cells #[.complex .f32 a.a.re a.a.im, .complex .f32 a.b.re a.b.im, .complex .f32 a.c.re a.c.im, .complex .f32 a.d.re a.d.im] 33)).alloc (.cells #[.complex .f32 0 0, .complex .f32 0 0, .complex .f32 0 0, .complex .f32 0 0] 33)) 33 a)
  have HB := Lib.hid ((((Below.refl w.heap.size w).alloc (Nat.le_refl _) (.cells #[.complex .f32 a.a.re a.a.im, .complex .f32 a.b.re a.b.im, .complex .f32 a.c.re a.c.im, .complex .f32 a.d.re a.d.im] 33)).alloc (by simp) (.cells #[.complex .f32 0 0, .complex .f32 0 0, .complex .f32 0 0, .complex .f32 0 0] 33)).alloc (by simp; omega) (.cells #[.complex .f32 a.a.re a.a.im, .complex .f32 a.b.re a.b.im, .complex .f32 a.c.re a.c.im, .complex .f32 a.d.re a.d.im] 33))
  rw [World.size_alloc] at hr0
  rw [World.size_alloc, World.size_alloc] at hp0
  have HR := Lib.hid hr0
  have HP := Lib.hid hp0
  have hlt := h.lt
  clear h h0 h1 h2 h3 hr0 hp0
  go_enter Try.func77, Try.ntmps77
  go_wp2_with fail
  go_loopw [14] (fun i wr => ∃ k : Nat, i = .int .i64 k ∧ k ≤ 4 ∧ Below w.heap.size w wr ∧ TC wr (w.heap.size + 1) nilTb ∧ TC wr (w.heap.size + 1 + 1) (prod4 a s t u v k)) (fun i _ => 4 - (intOf i).toNat)
  case atStart => exact ⟨0, rfl, by omega, HB.out, HR.out, HP.out⟩
  case round =>
    obtain ⟨k, rfl, hk, hb, hr, hp⟩ := hrel
    have hk3 : k = 0 ∨ k = 1 ∨ k = 2 ∨ k = 3 ∨ k = 4 := by omega
    have HBr := Lib.hid hb
    have HRr := Lib.hid hr
    have HPr := Lib.hid hp
    obtain ⟨e0, e1, e2, e3, e4, e5, e6, e7, e8, e9, e10, e11, e12, e13, e14, e15, el⟩ := HTT.out.below hb
    obtain ⟨p0, p1, p2, p3, g0, g1, g2, g3, gl⟩ := hp
    clear hb
    rcases hk3 with rfl | rfl | rfl | rfl | rfl
    · clear hr
      rw [prod4_0] at p0 p1 p2 p3 HPr
      go_wp2_with fail
      refine (M0.out _).mono ?_
      rintro e w3 ⟨rfl, hb3⟩
      have P3 := Lib.hid ((HPr.out.alloc _).below hb3)
      have R3 := Lib.hid ((HRr.out.alloc _).below hb3)
      obtain ⟨t0, t1, t2, t3, s0, s1, s2, s3, tl⟩ := P3.out
      have HB3 := Lib.hid (Below.trans (Below.alloc HBr.out (by have := HBr.out.size; omega) _) (hb3.mono (by have := HBr.out.size; simp; omega)))
      clear hb3
      have hn : ¬ w.heap.size + 1 + 1 = w3.heap.size := by omega
      go_wp2_with fail
      go_roundw
      case rel =>
        refine ⟨1, by go_num, by omega, Below.alloc (Below.put4 HB3.out (by omega) _ _ _ _) (by have := HB3.out.size; simp; omega) _, (tc_far R3.out (by omega) _ _ _ _).alloc _, ?_⟩
        rw [prod4_1]
        exact (P3.out.put (a.mul s)).alloc _
      case measure => simp [intOf]
    · clear hr
      rw [prod4_1] at p0 p1 p2 p3 HPr
      go_wp2_with fail
      refine (M1.out _).mono ?_
      rintro e w3 ⟨rfl, hb3⟩
      have P3 := Lib.hid ((HPr.out.alloc _).below hb3)
      have R3 := Lib.hid ((HRr.out.alloc _).below hb3)
      obtain ⟨t0, t1, t2, t3, s0, s1, s2, s3, tl⟩ := P3.out
      have HB3 := Lib.hid (Below.trans (Below.alloc HBr.out (by have := HBr.out.size; omega) _) (hb3.mono (by have := HBr.out.size; simp; omega)))
      clear hb3
      have hn : ¬ w.heap.size + 1 + 1 = w3.heap.size := by omega
      go_wp2_with fail
      go_roundw
      case rel =>
        refine ⟨2, by go_num, by omega, Below.alloc (Below.put4 HB3.out (by omega) _ _ _ _) (by have := HB3.out.size; simp; omega) _, (tc_far R3.out (by omega) _ _ _ _).alloc _, ?_⟩
        rw [prod4_2]
        exact (P3.out.put ((a.mul s).mul t)).alloc _
      case measure => simp [intOf]
    · clear hr
      rw [prod4_2] at p0 p1 p2 p3 HPr
      go_wp2_with fail
      refine (M2.out _).mono ?_
      rintro e w3 ⟨rfl, hb3⟩
      have P3 := Lib.hid ((HPr.out.alloc _).below hb3)
      have R3 := Lib.hid ((HRr.out.alloc _).below hb3)
      obtain ⟨t0, t1, t2, t3, s0, s1, s2, s3, tl⟩ := P3.out
      have HB3 := Lib.hid (Below.trans (Below.alloc HBr.out (by have := HBr.out.size; omega) _) (hb3.mono (by have := HBr.out.size; simp; omega)))
      clear hb3
      have hn : ¬ w.heap.size + 1 + 1 = w3.heap.size := by omega
      go_wp2_with fail
      go_roundw
      case rel =>
        refine ⟨3, by go_num, by omega, Below.alloc (Below.put4 HB3.out (by omega) _ _ _ _) (by have := HB3.out.size; simp; omega) _, (tc_far R3.out (by omega) _ _ _ _).alloc _, ?_⟩
        rw [prod4_3]
        exact (P3.out.put (((a.mul s).mul t).mul u)).alloc _
      case measure => simp [intOf]
    · clear hr
      rw [prod4_3] at p0 p1 p2 p3 HPr
      go_wp2_with fail
      refine (M3.out _).mono ?_
      rintro e w3 ⟨rfl, hb3⟩
      have P3 := Lib.hid ((HPr.out.alloc _).below hb3)
      have R3 := Lib.hid ((HRr.out.alloc _).below hb3)
      obtain ⟨t0, t1, t2, t3, s0, s1, s2, s3, tl⟩ := P3.out
      have HB3 := Lib.hid (Below.trans (Below.alloc HBr.out (by have := HBr.out.size; omega) _) (hb3.mono (by have := HBr.out.size; simp; omega)))
      clear hb3
      have hn : ¬ w.heap.size + 1 + 1 = w3.heap.size := by omega
      go_wp2_with fail
      go_roundw
      case rel =>
        refine ⟨4, by go_num, by omega, Below.alloc (Below.put4 HB3.out (by omega) _ _ _ _) (by have := HB3.out.size; simp; omega) _, (tc_far R3.out (by omega) _ _ _ _).alloc _, ?_⟩
        rw [prod4_4]
        exact (P3.out.put ((((a.mul s).mul t).mul u).mul v)).alloc _
      case measure => simp [intOf]
    · obtain ⟨r0, r1, r2, r3, f0, f1, f2, f3, fl⟩ := hr
      simp only [nilTb] at r0 r1 r2 r3
      go_wp2_with fail
      all_goals
        obtain ⟨x0, x1, x2, x3, _, _, _, _, _⟩ := HRr.out.put (prod4 a s t u v 4)
        refine bodyPost_ret (v := .tuple #[.agg #[.complex .f32 (prod4 a s t u v 4).a.re (prod4 a s t u v 4).a.im, .complex .f32 (prod4 a s t u v 4).b.re (prod4 a s t u v 4).b.im, .complex .f32 (prod4 a s t u v 4).c.re (prod4 a s t u v 4).c.im, .complex .f32 (prod4 a s t u v 4).d.re (prod4 a s t u v 4).d.im], .int .i64 0]) (by simp [results, Try.results77, go_sem, x0, x1, x2, x3]) rfl ⟨rfl, Below.put4 HBr.out (by omega) _ _ _ _⟩

end Go.Proofs.Ytlmhibeimfkpiaa
