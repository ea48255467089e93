/- Walks: the step of the specification. -/
import Derived.Test.YtaghfffbhgpalaaG1
import Derived.Test.YtaghfffbhgpalaaKam
import Derived.Test.YtaghfffbhgpalaaKax
namespace Go.Proofs.Ytaghfffbhgpalaa
open Go.RowKit

set_option maxHeartbeats 2000000 in
theorem l09Step_no (a b c h : Nat) (w : World) (ha : a < 4294967296) (hb : b < 4294967296) (hc : c < 4294967296) (hh : h < 4294967296) (fh : fin h = true) (H : finO (qO a b c h) = false) :
    Calls Try.prog 23 #[.agg #[.float .f32 a, .float .f32 b, .float .f32 c], .float .f32 h] w fun e w' => e = .returned (.tuple #[noTable, .int .i64 3]) ∧ Below w.heap.size w w' := by
  obtain ⟨k, hk, lk, fk, hlo, hup⟩ := half_word hh fh
  obtain ⟨kk, hkk⟩ := mul_some lk lk fk fk
  have lkk := floatBits_lt hkk
  have rk : ∀ w, (binOp .quo 22 (.float .f32 h) (.float .f32 1073741824)).run Try.prog w = .ok (.float .f32 k) w := fun w => run_float_arith w .quo _ .f32 h 1073741824 k hk
  have rkk : ∀ w, (binOp .mul 22 (.float .f32 k) (.float .f32 k)).run Try.prog w = .ok (.float .f32 kk) w := fun w => run_float_arith w .mul _ .f32 k k kk hkk
  have HI := Lib.hid (fun w => l09Inner_ok a b c a b c w ha hb hc ha hb hc)
  have Hq : ∀ v, Fw (opO .mul (some kk) (innO a b c a b c)) v → fin v = false := by
    intro v hv
    rw [fw_fin hv]
    have e1 : kO h = some k := hk
    have e2 : kkO h = some kk := by unfold kkO; rw [e1]; exact hkk
    have e3 : qO a b c h = opO .mul (some kk) (innO a b c a b c) := by unfold qO sqO; rw [e2]
    rw [← e3]
    exact H
  unfold noTable
  clear ha hb hc hh fh H hk lk fk hkk hlo hup
  go_enter Try.func23, Try.ntmps23
  go_wp2_with fail
  refine (HI.out _).mono ?_
  rintro e w1 ⟨⟨z, rfl, hz⟩, hb1⟩
  obtain ⟨qv, nq, hq, oq⟩ := op_run (P := Try.prog) w1 .mul 22 (by simp) (fw_some lkk) hz
  have fq := Hq _ oq
  have hlq := oq.1
  have F1 := Lib.hid (fun w => fine_any z w hz.1)
  have F2 := Lib.hid (fun w => fine_any kk w lkk)
  have F3 := Lib.hid (fun w => fine_any qv w hlq)
  rw [fq] at F3
  have hz1 : w.heap.size + 1 < w1.heap.size := by have := hb1.size; simp at this; omega
  obtain ⟨hc1, hf1⟩ := bcell hb1
  have HB1 := Lib.hid (show Below w.heap.size w w1 from below_step hb1 (((Below.refl _ _).alloc (Nat.le_refl _) _).alloc (by simp) _) (by simp; omega))
  clear oq fq hlq hz Hq lkk hb1 HI
  generalize fin z = fz at *
  generalize fin kk = fkk at *
  cases fz
  · go_wp2_with fail
    refine (F1.out _).mono ?_
    rintro e w2 ⟨rfl, n1, rfl⟩
    go_wp2_with fail
    refine bodyPost_ret (v := .tuple #[.agg #[.complex .f32 0 0, .complex .f32 0 0, .complex .f32 0 0, .complex .f32 0 0], .int .i64 3]) (by simp [results, Try.results23, go_sem, hc1, hz1]) rfl ⟨rfl, ?_⟩
    all_goals repeat first
      | exact HB1.out
      | refine Below.setCell ?_ ?_ _
      | refine below_drewN ?_ _
    all_goals first | omega | (simp; done) | (simp; omega)
  cases fkk
  · go_wp2_with fail
    refine (F1.out _).mono ?_
    rintro e w2 ⟨rfl, n1, rfl⟩
    go_wp2_with fail
    refine (F2.out _).mono ?_
    rintro e w2 ⟨rfl, n2, rfl⟩
    go_wp2_with fail
    refine bodyPost_ret (v := .tuple #[.agg #[.complex .f32 0 0, .complex .f32 0 0, .complex .f32 0 0, .complex .f32 0 0], .int .i64 3]) (by simp [results, Try.results23, go_sem, hc1, hz1]) rfl ⟨rfl, ?_⟩
    all_goals repeat first
      | exact HB1.out
      | refine Below.setCell ?_ ?_ _
      | refine below_drewN ?_ _
    all_goals first | omega | (simp; done) | (simp; omega)
  · go_wp2_with fail
    refine (F1.out _).mono ?_
    rintro e w2 ⟨rfl, n1, rfl⟩
    go_wp2_with fail
    refine (F2.out _).mono ?_
    rintro e w2 ⟨rfl, n2, rfl⟩
    go_wp2_with fail
    refine (F3.out _).mono ?_
    rintro e w2 ⟨rfl, n3, rfl⟩
    go_wp2_with fail
    refine bodyPost_ret (v := .tuple #[.agg #[.complex .f32 0 0, .complex .f32 0 0, .complex .f32 0 0, .complex .f32 0 0], .int .i64 3]) (by simp [results, Try.results23, go_sem, hc1, hz1]) rfl ⟨rfl, ?_⟩
    all_goals repeat first
      | exact HB1.out
      | refine Below.setCell ?_ ?_ _
      | refine below_drewN ?_ _
    all_goals first | omega | (simp; done) | (simp; omega)

/-- The values of a step. -/
structure Stp (a b c h k kk sq q d g f w x y z : Nat) : Prop where
  qk : floatBits .quo .f32 h 1073741824 = some k
  qkk : floatBits .mul .f32 k k = some kk
  qsq : sqO a b c = some sq
  qq : floatBits .mul .f32 kk sq = some q
  qd : floatBits .add .f32 1065353216 q = some d
  qg : floatBits .sub .f32 1065353216 q = some g
  qf : floatBits .quo .f32 h d = some f
  qw : floatBits .quo .f32 g d = some w
  qx : floatBits .mul .f32 f a = some x
  qy : floatBits .mul .f32 f b = some y
  qz : floatBits .mul .f32 f c = some z
  fk : Num k
  fkk : Num kk
  fsq : Num sq
  fq : Num q
  fd : Num d
  fg : Num g
  ff : Num f
  fw : Num w
  fx : Num x
  fy : Num y
  fz : Num z
  bw : Bd 6 w
  bx : Bd 6 x
  bY : Bd 6 y
  bz : Bd 6 z

theorem stp_of {a b c h : Nat} (ha : Num a) (hb : Num b) (hc : Num c) (hh : Num h) (H : finO (qO a b c h) = true) : ∃ k kk sq q d g f w x y z, Stp a b c h k kk sq q d g f w x y z := by
  obtain ⟨k, kk, sq, q, d, g, f, w, x, y, z, ⟨e1, l1, f1⟩, ⟨e2, l2, f2⟩, ⟨e3, l3, f3⟩, ⟨e4, l4, f4⟩, ⟨e5, l5, f5⟩, ⟨e6, l6, f6⟩, ⟨e7, l7, f7⟩, ⟨e8, l8, f8⟩, ⟨e9, l9, f9⟩, ⟨ea, la, fa⟩, ⟨eb, lb, fb⟩, b1, b2, b3, b4⟩ := step_nums ha.1 hb.1 hc.1 hh.1 ha.2 hb.2 hc.2 hh.2 H
  have g2 : opO .mul (kO h) (kO h) = some kk := e2
  have g4 : opO .mul (kkO h) (sqO a b c) = some q := e4
  have g5 : opO .add (some 1065353216) (qO a b c h) = some d := e5
  have g6 : opO .sub (some 1065353216) (qO a b c h) = some g := e6
  have g7 : opO .quo (some h) (dO a b c h) = some f := e7
  have g8 : opO .quo (gO a b c h) (dO a b c h) = some w := e8
  have g9 : opO .mul (fO a b c h) (some a) = some x := e9
  have ga : opO .mul (fO a b c h) (some b) = some y := ea
  have gb : opO .mul (fO a b c h) (some c) = some z := eb
  rw [e1] at g2
  rw [e2, e3] at g4
  rw [e4] at g5 g6
  rw [e5] at g7 g8
  rw [e6] at g8
  rw [e7] at g9 ga gb
  exact ⟨k, kk, sq, q, d, g, f, w, x, y, z, e1, g2, e3, g4, g5, g6, g7, g8, g9, ga, gb, ⟨l1, f1⟩, ⟨l2, f2⟩, ⟨l3, f3⟩, ⟨l4, f4⟩, ⟨l5, f5⟩, ⟨l6, f6⟩, ⟨l7, f7⟩, ⟨l8, f8⟩, ⟨l9, f9⟩, ⟨la, fa⟩, ⟨lb, fb⟩, b1, b2, b3, b4⟩

set_option maxRecDepth 100000 in
set_option maxHeartbeats 4000000 in
theorem l09Step_yes {a b c h k kk sq q d g f s x y z : Nat} (ha : Num a) (hb : Num b) (hc : Num c) (hh : Num h) (S : Stp a b c h k kk sq q d g f s x y z) (w : World) :
    Calls Try.prog 23 #[.agg #[.float .f32 a, .float .f32 b, .float .f32 c], .float .f32 h] w fun e w' => e = .returned (.tuple #[tableOf s x y z, .int .i64 0]) ∧ Below w.heap.size w w' := by
  have HI := Lib.hid (fun w => l09Inner_ok a b c a b c w ha.1 hb.1 hc.1 ha.1 hb.1 hc.1)
  obtain ⟨qk, qkk, qsq, qq, qd, qg, qf, qw, qx, qy, qz, fk, fkk, fsq, fq, fd, fg, ff, fw, fx, fy, fz, _, _, _, _⟩ := S
  have rk : ∀ w, (binOp .quo 22 (.float .f32 h) (.float .f32 1073741824)).run Try.prog w = .ok (.float .f32 k) w := fun w => run_float_arith w .quo _ .f32 h 1073741824 k qk
  have rkk : ∀ w, (binOp .mul 22 (.float .f32 k) (.float .f32 k)).run Try.prog w = .ok (.float .f32 kk) w := fun w => run_float_arith w .mul _ .f32 k k kk qkk
  have rq : ∀ w, (binOp .mul 22 (.float .f32 kk) (.float .f32 sq)).run Try.prog w = .ok (.float .f32 q) w := fun w => run_float_arith w .mul _ .f32 kk sq q qq
  have rd : ∀ w, (binOp .add 22 (.float .f32 1065353216) (.float .f32 q)).run Try.prog w = .ok (.float .f32 d) w := fun w => run_float_arith w .add _ .f32 1065353216 q d qd
  have rg : ∀ w, (binOp .sub 22 (.float .f32 1065353216) (.float .f32 q)).run Try.prog w = .ok (.float .f32 g) w := fun w => run_float_arith w .sub _ .f32 1065353216 q g qg
  have rf : ∀ w, (binOp .quo 22 (.float .f32 h) (.float .f32 d)).run Try.prog w = .ok (.float .f32 f) w := fun w => run_float_arith w .quo _ .f32 h d f qf
  have rw' : ∀ w, (binOp .quo 22 (.float .f32 g) (.float .f32 d)).run Try.prog w = .ok (.float .f32 s) w := fun w => run_float_arith w .quo _ .f32 g d s qw
  have rx : ∀ w, (binOp .mul 22 (.float .f32 f) (.float .f32 a)).run Try.prog w = .ok (.float .f32 x) w := fun w => run_float_arith w .mul _ .f32 f a x qx
  have ry : ∀ w, (binOp .mul 22 (.float .f32 f) (.float .f32 b)).run Try.prog w = .ok (.float .f32 y) w := fun w => run_float_arith w .mul _ .f32 f b y qy
  have rz : ∀ w, (binOp .mul 22 (.float .f32 f) (.float .f32 c)).run Try.prog w = .ok (.float .f32 z) w := fun w => run_float_arith w .mul _ .f32 f c z qz
  have F : ∀ v, Num v → ∀ w, Calls Try.prog 22 #[.float .f32 v] w fun e w' => e = .returned (.bool true) ∧ ∃ n, w.drewN n = w' := fun v hv w => by
    have := fine_any v w hv.1
    rwa [hv.2] at this
  have F1 := Lib.hid (F sq fsq)
  have F2 := Lib.hid (F kk fkk)
  have F3 := Lib.hid (F q fq)
  have F4 := Lib.hid (F d fd)
  have F5 := Lib.hid (F s fw)
  have F6 := Lib.hid (F f ff)
  have F7 := Lib.hid (F x fx)
  have F8 := Lib.hid (F y fy)
  have F9 := Lib.hid (F z fz)
  have HT := Lib.hid (fun w => l03Table_any s x y z w)
  have hsq : innO a b c a b c = some sq := qsq
  rw [hsq] at HI
  unfold tableOf at *
  clear ha hb hc hh qk qkk qsq qq qd qg qf qw qx qy qz fk fkk fsq fq fd fg ff fw fx fy fz F hsq
  go_enter Try.func23, Try.ntmps23
  go_wp2_with fail
  refine (HI.out _).mono ?_
  rintro e w1 ⟨⟨sq', rfl, hz⟩, hb1⟩
  obtain ⟨_, rfl⟩ := hz
  have hz1 : w.heap.size + 1 < w1.heap.size := by have := hb1.size; simp at this; omega
  have hz0 : w.heap.size < w1.heap.size := by omega
  obtain ⟨hc1, hf1⟩ := bcell hb1
  have c0 : w1.cell? ⟨w.heap.size, 0, none⟩ = some (.float .f32 a) := by simp [hc1, go_sem]
  have c1 : w1.cell? ⟨w.heap.size, 1, none⟩ = some (.float .f32 b) := by simp [hc1, go_sem]
  have c2 : w1.cell? ⟨w.heap.size, 2, none⟩ = some (.float .f32 c) := by simp [hc1, go_sem]
  have HB1 := Lib.hid (show Below w.heap.size w w1 from below_step hb1 (((Below.refl _ _).alloc (Nat.le_refl _) _).alloc (by simp) _) (by simp; omega))
  clear hb1
  go_wp2_with fail
  refine (F1.out _).mono ?_
  rintro e w2 ⟨rfl, n1, rfl⟩
  go_wp2_with fail
  refine (F2.out _).mono ?_
  rintro e w2 ⟨rfl, n2, rfl⟩
  go_wp2_with fail
  refine (F3.out _).mono ?_
  rintro e w2 ⟨rfl, n3, rfl⟩
  go_wp2_with fail
  go_quiet (fail)
  go_wp2_with fail
  refine (F4.out _).mono ?_
  rintro e w2 ⟨rfl, n4, rfl⟩
  go_wp2_with fail
  refine (F5.out _).mono ?_
  rintro e w2 ⟨rfl, n5, rfl⟩
  go_wp2_with fail
  refine (F6.out _).mono ?_
  rintro e w2 ⟨rfl, n6, rfl⟩
  go_wp2_with fail
  refine (F7.out _).mono ?_
  rintro e w2 ⟨rfl, n7, rfl⟩
  go_wp2_with fail
  refine (F8.out _).mono ?_
  rintro e w2 ⟨rfl, n8, rfl⟩
  go_wp2_with fail
  refine (F9.out _).mono ?_
  rintro e w2 ⟨rfl, n9, rfl⟩
  go_wp2_with fail
  refine (HT.out _).mono ?_
  rintro e w2 ⟨rfl, hb2⟩
  obtain ⟨hc2, hf2⟩ := bcell hb2
  have hz2 : w.heap.size + 1 < w2.heap.size := by have := hb2.size; simp at this; omega
  have d0 : w2.cell? ⟨w.heap.size + 1, 0, none⟩ = some (.complex .f32 0 0) := by rw [hc2 _ _ (by simpa using hz1)]; simp [go_sem, hc1]
  have d1 : w2.cell? ⟨w.heap.size + 1, 1, none⟩ = some (.complex .f32 0 0) := by rw [hc2 _ _ (by simpa using hz1)]; simp [go_sem, hc1]
  have d2 : w2.cell? ⟨w.heap.size + 1, 2, none⟩ = some (.complex .f32 0 0) := by rw [hc2 _ _ (by simpa using hz1)]; simp [go_sem, hc1]
  have d3 : w2.cell? ⟨w.heap.size + 1, 3, none⟩ = some (.complex .f32 0 0) := by rw [hc2 _ _ (by simpa using hz1)]; simp [go_sem, hc1]
  have f0 : ∀ i, w2.frozen? ⟨w.heap.size + 1, i, none⟩ = false := fun i => by rw [hf2 _ _ (by simpa using hz1)]; simp [go_sem, hf1]
  have HB2 := Lib.hid hb2
  clear hb2 hc2 hf2 hc1 hf1 c0 c1 c2
  go_wp2_with fail
  refine bodyPost_ret (v := .tuple #[.agg #[.complex .f32 s (Op.negFloat .f32 z), .complex .f32 (Op.negFloat .f32 y) (Op.negFloat .f32 x), .complex .f32 y (Op.negFloat .f32 x), .complex .f32 s z], .int .i64 0]) (by simp [results, Try.results23, go_sem, d0, d1, d2, d3, f0, hz2]) rfl ⟨rfl, ?_⟩
  all_goals repeat first
    | exact HB1.out
    | refine Below.setCell ?_ ?_ _
    | refine below_step HB2.out ?_ ?_
    | refine below_drewN ?_ _
  all_goals first | omega | (simp; done) | (simp; omega)

end Go.Proofs.Ytaghfffbhgpalaa
