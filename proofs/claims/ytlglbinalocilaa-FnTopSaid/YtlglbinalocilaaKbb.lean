/- Walks: the table of a list of pulses, as the specification has it; neither has one of a list that is no sequence. Walks: TableOfSequence of both, AdjointOf. -/
import Derived.Test.YtlglbinalocilaaDu
import Derived.Deep.RegionHeld3
import Derived.Deep.RegionWith
namespace Go.Proofs.Ytlglbinalocilaa
open Go.RowKit

theorem tc_drew {W : World} {B : Nat} {t : Tb} (h : TC W B t) : TC W.drew B t := ⟨h.c0, h.c1, h.c2, h.c3, h.f0, h.f1, h.f2, h.f3, h.lt⟩

set_option maxRecDepth 100000 in
set_option maxHeartbeats 4000000 in
theorem l05Table_ok {w : World} {b off cap n : Nat} {P : Nat → Pu} (h : Rd w (.slice (some ⟨b, off, none⟩) n cap) n P) (hn : n ≤ 60) (hs : seqB n P = true) :
    Calls Try.prog 29 #[.slice (some ⟨b, off, none⟩) n cap, .int .i64 0] w fun e w' => e = .returned (.tuple #[.agg #[.complex .f32 (tabS P n).a.re (tabS P n).a.im, .complex .f32 (tabS P n).b.re (tabS P n).b.im, .complex .f32 (tabS P n).c.re (tabS P n).c.im, .complex .f32 (tabS P n).d.re (tabS P n).d.im], .int .i64 0]) ∧ Below w.heap.size w w' := by
  have HOK := Lib.hid (fun i (hi : i < n) => by
    have := hs
    unfold seqB at this
    simp only [Bool.and_eq_true, List.all_eq_true, List.mem_range] at this
    exact this.1 i hi)
  have hw0 : Below w.heap.size w (w.alloc (.cells #[.complex .f32 0 0, .complex .f32 0 0, .complex .f32 0 0, .complex .f32 0 0] 29)) := (Below.refl _ _).alloc (Nat.le_refl _) _
  have HU := Lib.hid (fun w => by have := l03Unit_any w; rw [four] at this; exact this)
  have HR := Lib.hid (TC.new w 29 nilTb)
  have HW := Lib.hid hw0
  clear hw0 hs
  obtain ⟨a, cap', hv, h⟩ := h
  injection hv with q1 _ q3
  subst q1 q3
  go_enter Try.func29, Try.ntmps29
  go_wp2_with fail
  refine (HU.out _).mono ?_
  rintro e w2 ⟨rfl, hb2⟩
  have HB2 := Lib.hid (HW.out.trans (hb2.mono HW.out.size))
  have R2 := Lib.hid (HR.out.below hb2)
  have hlt2 := R2.out.lt
  clear hb2
  go_wp2_with fail
  have T2 := Lib.hid (TC.new w2 29 unitS)
  have hBne : w.heap.size < w2.heap.size := hlt2
  generalize hB : w2.heap.size = B at *
  have HBB := Lib.hid hB
  clear hB hlt2
  go_loopw [7] (fun i wr => ∃ k : Nat, i = .int .i64 k ∧ k ≤ n ∧ Below w.heap.size w wr ∧ TC wr w.heap.size nilTb ∧ TC wr B (tabS P k)) (fun i _ => n - (intOf i).toNat)
  case atStart => exact ⟨0, rfl, Nat.zero_le _, HB2.out.alloc (by rw [HBB.out]; omega) _, R2.out.alloc _, T2.out⟩
  case round =>
    obtain ⟨k, rfl, hk, hb, hr, ht⟩ := hrel
    by_cases hlt : k < n
    · obtain ⟨b', off', q5, hl, hc⟩ := h (by omega)
      injection q5 with q5
      injection q5 with q6 q7
      subst q6 q7
      obtain ⟨c0, c1, c2⟩ := hc k hlt
      rw [← hb.cell (p := ⟨b, _, none⟩) hl] at c0 c1 c2
      have hl2 : b < wr.heap.size := Nat.lt_of_lt_of_le hl hb.size
      have hlt' : (k : Int) < (n : Int) := by omega
      have hMu := (mul_ok_of HOK.out hlt hn).2
      have HP := Lib.hid (fun w => by have := l05Pulse_ok (HOK.out k hlt) w; rw [four] at this; exact this)
      have HM := Lib.hid (fun w => by have := l03Times_ok hMu w; rw [four, four, four] at this; exact this)
      have HI := Lib.hid (fun w => by have := l03Is_ok (tb_tf (tabs_ok HOK.out (k + 1) (by omega) (by omega)).1 (by omega)) w; rw [four] at this; exact this)
      have HTAB : Hid (tabS P (k + 1) = (pulseTb (P k)).mul (tabS P k)) := Lib.hid rfl
      rw [HTAB.out] at HI
      have HT := Lib.hid ht
      obtain ⟨t0, t1, t2, t3, s0, s1, s2, s3, tl⟩ := ht
      have HRr := Lib.hid hr
      have HB := Lib.hid hb
      have hbB : b ≠ B := by omega
      generalize tabS P k = T at *
      generalize (pulseTb (P k)).mul T = M at *
      generalize pulseTb (P k) = U at *
      clear hb hr hc h hMu
      go_wp2_with fail
      go_region_with
        ((first
          | (go_at_call 59; refine (HP.out _).mono ?_; rintro e w5 ⟨rfl, hb5⟩; have hb5' : Below wr.heap.size wr w5 := ⟨hb5.os, hb5.tape, hb5.output, hb5.size, hb5.block⟩; have HB5 := Lib.hid hb5'; obtain ⟨m0, m1, m2, m3, g0, g1, g2, g3, gl⟩ := HT.out.below hb5'; have p0 := (hb5'.cell (p := ⟨b, _, none⟩) hl2).trans c0; have p1 := (hb5'.cell (p := ⟨b, _, none⟩) hl2).trans c1; have p2 := (hb5'.cell (p := ⟨b, _, none⟩) hl2).trans c2; clear hb5 hb5')
          | (go_at_call 58; refine (HM.out _).mono ?_; rintro e w6 ⟨rfl, hb6⟩; have hb6' : Below wr.heap.size wr w6 := HB5.out.trans (hb6.mono HB5.out.size); have HB6 := Lib.hid hb6'; have HT6 := Lib.hid (HT.out.below hb6'); obtain ⟨m0, m1, m2, m3, g0, g1, g2, g3, gl⟩ := HT6.out; have p0 := (hb6'.cell (p := ⟨b, _, none⟩) hl2).trans c0; have p1 := (hb6'.cell (p := ⟨b, _, none⟩) hl2).trans c1; have p2 := (hb6'.cell (p := ⟨b, _, none⟩) hl2).trans c2; clear hb6 hb6')))
      all_goals
        go_wp2_with fail
        refine (HI.out _).mono ?_
        rintro e w7 ⟨rfl, hb7⟩
        have HT7 := Lib.hid ((HT6.out.put M).below hb7)
        have HR6 := Lib.hid (HRr.out.below HB6.out)
        have HR7 := Lib.hid ((HR6.out.far (by omega) _ _ _ _).below hb7)
        have HB7 := Lib.hid (Below.trans (Below.put4 (b := B) (HB.out.trans (HB6.out.mono HB.out.size)) (by omega) (.complex .f32 M.a.re M.a.im) (.complex .f32 M.b.re M.b.im) (.complex .f32 M.c.re M.c.im) (.complex .f32 M.d.re M.d.im)) (hb7.mono (by have h1 := HB.out.size; have h2 := HB6.out.size; simp; omega)))
        clear hb7 m0 m1 m2 m3 g0 g1 g2 g3 gl p0 p1 p2
        go_wp2_with fail
        go_roundw
        case rel =>
          refine ⟨k + 1, by go_num, by omega, HB7.out, HR7.out, ?_⟩
          rw [HTAB.out]
          exact HT7.out
        case measure => simp [intOf]; omega
    · have he : k = n := by omega
      subst he
      have hlt' : ¬ ((k : Int) < (k : Int)) := by omega
      have HB := Lib.hid hb
      have HRr := Lib.hid hr
      obtain ⟨t0, t1, t2, t3, s0, s1, s2, s3, tl⟩ := ht
      obtain ⟨r0, r1, r2, r3, g0, g1, g2, g3, gl⟩ := hr
      simp only [nilTb] at r0 r1 r2 r3
      clear hb h
      go_wp2_with fail
      all_goals
        obtain ⟨x0, x1, x2, x3, _, _, _, _, _⟩ := HRr.out.put (tabS P k)
        refine bodyPost_ret (v := .tuple #[.agg #[.complex .f32 (tabS P k).a.re (tabS P k).a.im, .complex .f32 (tabS P k).b.re (tabS P k).b.im, .complex .f32 (tabS P k).c.re (tabS P k).c.im, .complex .f32 (tabS P k).d.re (tabS P k).d.im], .int .i64 0]) (by simp [results, Try.results29, go_sem, x0, x1, x2, x3]) rfl ⟨rfl, Below.put4 HB.out (Nat.le_refl _) _ _ _ _⟩

end Go.Proofs.Ytlglbinalocilaa

namespace Go.Proofs.Ytlglbinalocilaa
open Go.RowKit

set_option maxRecDepth 100000 in
set_option maxHeartbeats 1000000 in
theorem specTable_ok {w : World} {b off cap n : Nat} {P : Nat → Pu} (h : Rd w (.slice (some ⟨b, off, none⟩) n cap) n P) (hn : n ≤ 60) (hs : seqB n P = true) :
    Calls Try.prog 9 #[.slice (some ⟨b, off, none⟩) n cap] w fun e w' => e = .returned (.tuple #[.agg #[.complex .f32 (tabS P n).a.re (tabS P n).a.im, .complex .f32 (tabS P n).b.re (tabS P n).b.im, .complex .f32 (tabS P n).c.re (tabS P n).c.im, .complex .f32 (tabS P n).d.re (tabS P n).d.im], .int .i64 0]) ∧ Below w.heap.size w w' := by
  have hw0 : Below w.heap.size w (w.alloc (.cells #[.complex .f32 0 0, .complex .f32 0 0, .complex .f32 0 0, .complex .f32 0 0] 29)) := (Below.refl _ _).alloc (Nat.le_refl _) _
  have HI := Lib.hid (l05Is_ok (rd_below h hw0) (by omega))
  rw [hs] at HI
  have HN := Lib.hid (l05Table_ok (rd_below h hw0) hn hs)
  have HR := Lib.hid (TC.new w 29 nilTb)
  have HW := Lib.hid hw0
  generalize tabS P n = M at *
  clear h hw0
  go_enter Try.func9, Try.ntmps9
  go_wp2_with fail
  refine HI.out.mono ?_
  rintro e w' ⟨rfl, rfl⟩
  go_wp2_with fail
  refine HN.out.mono ?_
  rintro e w1 ⟨rfl, hb1⟩
  have R1 := Lib.hid (HR.out.below hb1)
  obtain ⟨r0, r1, r2, r3, g0, g1, g2, g3, gl⟩ := R1.out
  simp only [nilTb] at r0 r1 r2 r3
  have HB1 := Lib.hid (HW.out.trans (hb1.mono HW.out.size))
  clear hb1
  go_wp2_with fail
  all_goals
    obtain ⟨x0, x1, x2, x3, _, _, _, _, _⟩ := R1.out.put M
    refine bodyPost_ret (v := .tuple #[.agg #[.complex .f32 M.a.re M.a.im, .complex .f32 M.b.re M.b.im, .complex .f32 M.c.re M.c.im, .complex .f32 M.d.re M.d.im], .int .i64 0]) (by simp [results, Try.results9, go_sem, x0, x1, x2, x3]) rfl ⟨rfl, Below.put4 HB1.out (Nat.le_refl _) _ _ _ _⟩

set_option maxRecDepth 100000 in
set_option maxHeartbeats 1000000 in
theorem specTable_no {w : World} {b off cap n : Nat} {P : Nat → Pu} (h : Rd w (.slice (some ⟨b, off, none⟩) n cap) n P) (hn : n ≤ 1048576) (hs : seqB n P = false) :
    Calls Try.prog 9 #[.slice (some ⟨b, off, none⟩) n cap] w fun e w' => e = .returned (.tuple #[nilTb.v, .int .i64 1]) ∧ Below w.heap.size w w' := by
  have hw0 : Below w.heap.size w (w.alloc (.cells #[.complex .f32 0 0, .complex .f32 0 0, .complex .f32 0 0, .complex .f32 0 0] 29)) := (Below.refl _ _).alloc (Nat.le_refl _) _
  have HI := Lib.hid (l05Is_ok (rd_below h hw0) (by omega))
  rw [hs] at HI
  rw [four]
  unfold nilTb
  clear h hw0
  go_enter Try.func9, Try.ntmps9
  go_wp2_with fail
  refine HI.out.mono ?_
  rintro e w' ⟨rfl, rfl⟩
  go_wp2_with fail
  refine bodyPost_ret (v := .tuple #[.agg #[.complex .f32 0 0, .complex .f32 0 0, .complex .f32 0 0, .complex .f32 0 0], .int .i64 1]) (by simp [results, Try.results9, go_sem]) rfl ⟨rfl, ?_⟩
  all_goals repeat first
    | exact Below.refl _ _
    | refine Below.setCell ?_ ?_ _
    | refine Below.alloc ?_ ?_ _
  all_goals first | omega | (simp; done) | (simp; omega)

set_option maxRecDepth 100000 in
set_option maxHeartbeats 1000000 in
theorem renewed_no {w : World} {b off cap n : Nat} {P : Nat → Pu} (h : Rd w (.slice (some ⟨b, off, none⟩) n cap) n P) (hn : n ≤ 1048576) (hs : seqB n P = false) :
    Calls Try.prog 27 #[.slice (some ⟨b, off, none⟩) n cap, .int .i64 61] w fun e w' => e = .returned (.tuple #[.agg #[.complex .f32 0 0, .complex .f32 0 0, .complex .f32 0 0, .complex .f32 0 0], .int .i64 1]) ∧ Below w.heap.size w w' := by
  have hw0 : Below w.heap.size w (w.alloc (.cells #[.complex .f32 0 0, .complex .f32 0 0, .complex .f32 0 0, .complex .f32 0 0] 29)) := (Below.refl _ _).alloc (Nat.le_refl _) _
  have HI := Lib.hid (implIs_ok (rd_below h hw0) (by omega))
  rw [hs] at HI
  clear h hw0
  go_enter Try.func27, Try.ntmps27
  go_wp2_with fail
  refine HI.out.mono ?_
  rintro e w1 ⟨rfl, hb1⟩
  obtain ⟨hc, hf⟩ := bcell hb1
  have hz : w.heap.size < w1.heap.size := by have := hb1.size; simp at this; omega
  have HB := Lib.hid hb1
  clear hb1
  go_wp2_with fail
  refine bodyPost_ret (v := .tuple #[.agg #[.complex .f32 0 0, .complex .f32 0 0, .complex .f32 0 0, .complex .f32 0 0], .int .i64 1]) (by simp [results, Try.results27, go_sem, hc, hz]) rfl ⟨rfl, ?_⟩
  all_goals repeat first
    | exact Below.refl _ _
    | refine Below.setCell ?_ ?_ _
    | refine Below.alloc ?_ ?_ _
    | refine below_step HB.out ?_ ?_
  all_goals first | omega | (simp; done) | (simp; omega)

set_option maxRecDepth 100000 in
set_option maxHeartbeats 1000000 in
theorem tableOf_no {w : World} {b off cap n : Nat} {P : Nat → Pu} (h : Rd w (.slice (some ⟨b, off, none⟩) n cap) n P) (hn : n ≤ 1048576) (hs : seqB n P = false) :
    Calls Try.prog 8 #[.slice (some ⟨b, off, none⟩) n cap] w fun e w' => e = .returned (.tuple #[nilTb.v, .int .i64 1]) ∧ Below w.heap.size w w' := by
  have hw0 : Below w.heap.size w (w.alloc (.cells #[.complex .f32 0 0, .complex .f32 0 0, .complex .f32 0 0, .complex .f32 0 0] 29)) := (Below.refl _ _).alloc (Nat.le_refl _) _
  have HN := Lib.hid (renewed_no (rd_below h hw0) hn hs)
  rw [four]
  unfold nilTb
  clear h hw0
  go_enter Try.func8, Try.ntmps8
  go_wp2_with fail
  refine HN.out.mono ?_
  rintro e w1 ⟨rfl, hb1⟩
  obtain ⟨hc, hf⟩ := bcell hb1
  have hz : w.heap.size < w1.heap.size := by have := hb1.size; simp at this; omega
  have HB := Lib.hid hb1
  clear hb1
  go_wp2_with fail
  refine bodyPost_ret (v := .tuple #[.agg #[.complex .f32 0 0, .complex .f32 0 0, .complex .f32 0 0, .complex .f32 0 0], .int .i64 1]) (by simp [results, Try.results8, go_sem, hc, hz]) rfl ⟨rfl, ?_⟩
  all_goals repeat first
    | exact Below.refl _ _
    | refine Below.setCell ?_ ?_ _
    | refine Below.alloc ?_ ?_ _
    | refine below_step HB.out ?_ ?_
  all_goals first | omega | (simp; done) | (simp; omega)

set_option maxRecDepth 100000 in
set_option maxHeartbeats 1000000 in
theorem adjointOf_ok {t : Tb} (h : TF t) (w : World) :
    Calls Try.prog 11 #[t.v] w fun e w' => e = .returned (.tuple #[t.adj.v, .int .i64 0]) ∧ Below w.heap.size w w' := by
  have HI := Lib.hid (fun w => by have := isTable_ok h w; rw [four] at this; exact this)
  have HJ := Lib.hid (fun w => by have := adjoint_any t w; rw [four, four] at this; exact this)
  rw [four, four]
  generalize t.adj = M at *
  clear h
  have HA := Lib.hid ((TC.new w 29 t).alloc (.cells #[.complex .f32 0 0, .complex .f32 0 0, .complex .f32 0 0, .complex .f32 0 0] 29))
  have HR := Lib.hid (TC.new (w.alloc (.cells #[.complex .f32 t.a.re t.a.im, .complex .f32 t.b.re t.b.im, .complex .f32 t.c.re t.c.im, .complex .f32 t.d.re t.d.im] 29)) 29 nilTb)
  go_enter Try.func11, Try.ntmps11
  go_wp2_with fail
  refine (HI.out _).mono ?_
  rintro e w2 ⟨rfl, hb2⟩
  have AT := Lib.hid (HA.out.below hb2)
  have RT := Lib.hid (HR.out.below hb2)
  obtain ⟨a0, a1, a2, a3, b0, b1, b2, b3, bl⟩ := AT.out
  have hsz2 := hb2.size
  simp only [World.size_alloc] at hsz2
  have HB2 := Lib.hid (Below.trans (((Below.refl w.heap.size w).alloc (Nat.le_refl _) _).alloc (by simp) _) (hb2.mono (by simp; omega)))
  clear hb2
  go_wp2_with fail
  refine (HJ.out _).mono ?_
  rintro e w3 ⟨rfl, hb3⟩
  have RT3 := Lib.hid (RT.out.below hb3)
  obtain ⟨r0, r1, r2, r3, g0, g1, g2, g3, gl⟩ := RT3.out
  simp only [World.size_alloc, nilTb] at r0 r1 r2 r3 g0 g1 g2 g3 gl
  have HB3 := Lib.hid (HB2.out.trans (hb3.mono HB2.out.size))
  clear hb3
  go_wp2_with fail
  all_goals
    obtain ⟨x0, x1, x2, x3, _, _, _, _, _⟩ := RT3.out.put M
    simp only [World.size_alloc] at x0 x1 x2 x3
    refine bodyPost_ret (v := .tuple #[.agg #[.complex .f32 M.a.re M.a.im, .complex .f32 M.b.re M.b.im, .complex .f32 M.c.re M.c.im, .complex .f32 M.d.re M.d.im], .int .i64 0]) (by simp [results, Try.results11, go_sem, x0, x1, x2, x3]) rfl ⟨rfl, Below.put4 HB3.out (by omega) _ _ _ _⟩

end Go.Proofs.Ytlglbinalocilaa
