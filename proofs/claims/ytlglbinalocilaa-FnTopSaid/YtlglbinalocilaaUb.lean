/- The law of the top. -/
import Derived.Test.YtlglbinalocilaaUa
namespace Go.Proofs.Ytlglbinalocilaa
open Go.RowKit

/-- What the law wants of the functions of pairs. -/
def FirstOk : Prop := ∀ (a : Tb) (p : Pr) (w : World), TB 60 a → PB 2 p → Calls Try.prog 15 #[.agg #[.complex .f32 a.a.re a.a.im, .complex .f32 a.b.re a.b.im, .complex .f32 a.c.re a.c.im, .complex .f32 a.d.re a.d.im], .agg #[.complex .f32 p.a.re p.a.im, .complex .f32 p.b.re p.b.im, .complex .f32 p.c.re p.c.im, .complex .f32 p.d.re p.d.im], .int .i64 0] w fun e w' => e = .returned (.tuple #[(onFirst a p).v, .int .i64 0]) ∧ Below w.heap.size w w'
def SecondOk : Prop := ∀ (a : Tb) (p : Pr) (w : World), TB 60 a → PB 2 p → Calls Try.prog 15 #[.agg #[.complex .f32 a.a.re a.a.im, .complex .f32 a.b.re a.b.im, .complex .f32 a.c.re a.c.im, .complex .f32 a.d.re a.d.im], .agg #[.complex .f32 p.a.re p.a.im, .complex .f32 p.b.re p.b.im, .complex .f32 p.c.re p.c.im, .complex .f32 p.d.re p.d.im], .int .i64 1] w fun e w' => e = .returned (.tuple #[(onSecond a p).v, .int .i64 0]) ∧ Below w.heap.size w w'
def SwapOk : Prop := ∀ (p : Pr) (k : Nat) (w : World), PB k p → k ≤ 127 → Calls Try.prog 16 #[.agg #[.complex .f32 p.a.re p.a.im, .complex .f32 p.b.re p.b.im, .complex .f32 p.c.re p.c.im, .complex .f32 p.d.re p.d.im]] w fun e w' => e = .returned (.tuple #[p.swap.v, .int .i64 0]) ∧ Below w.heap.size w w'

theorem nil_tf : TF nilTb := by
  have z : (0 : Nat) < 4294967296 ∧ fin 0 = true := ⟨by omega, by decide +kernel⟩
  exact ⟨⟨z, z⟩, ⟨z, z⟩, ⟨z, z⟩, ⟨z, z⟩⟩

theorem nil_eqt : EqT nilTb nilTb := by
  have z : Eqv 0 0 := ⟨by omega, by omega, .inl rfl⟩
  exact ⟨⟨z, z⟩, ⟨z, z⟩, ⟨z, z⟩, ⟨z, z⟩⟩

set_option maxRecDepth 100000 in
set_option maxHeartbeats 8000000 in
theorem law_top (H1 : FirstOk) (H2 : SecondOk) (H3 : SwapOk) (c : Value) (len : Nat) (W : World) (hcode : Code W c len) :
    Calls Try.prog 3 #[c] W fun e w' => e = .returned (.bool true) ∧ Below W.heap.size W w' := by
  have HB := Lib.hid (top_big W c len W hcode)
  have T1 := Lib.hid H1
  have T2 := Lib.hid H2
  have T3 := Lib.hid H3
  have hq := neq_tab nil_eqt nil_tf
  simp only [nilTb] at hq
  clear H1 H2 H3
  by_cases hbig : (4096 : Int) < (len : Int)
  · have hd2 : decide ((4096 : Int) < (len : Int)) = true := decide_eq_true hbig
    rw [hd2] at HB
    obtain ⟨a, cap, rfl, _⟩ := hcode
    go_enter Try.func3, Try.ntmps3
    go_wp2_with fail
    refine HB.out.mono ?_
    rintro e w1 ⟨rfl, rfl⟩
    go_wp2_with fail
    go_ret
    exact ⟨rfl, Below.refl _ _⟩
  have hlen : (len : Int) ≤ 4096 := by omega
  have hd2 : decide ((4096 : Int) < (len : Int)) = false := decide_eq_false (by omega)
  rw [hd2] at HB
  have HD := Lib.hid (drawTable_any W c len hcode hlen)
  have HRo := Lib.hid (fun B w hB hold => roll_any W c len B w hcode hlen hB hold)
  have HDi := Lib.hid (fun B w hs => below_any W c len B 9 w hcode hlen hs (by omega) (by omega))
  have HCode := Lib.hid hcode
  obtain ⟨a, cap, rfl, _⟩ := hcode
  clear hd2 hbig
  go_enter Try.func3, Try.ntmps3
  go_wp2_with fail
  refine HB.out.mono ?_
  rintro e w1 ⟨rfl, rfl⟩
  go_wp2_with fail
  refine HD.out.mono ?_
  rintro e W1 ⟨g, kc, m, P, rfl, hkc, hm, hR, hBW⟩
  have HBW := Lib.hid hBW
  have HR := Lib.hid hR
  clear hBW hR
  by_cases hs : seqB m P = false
  · have HI := Lib.hid (fun w (hw : Below W1.heap.size W1 w) => by have := tableOf_no (rd_below HR.out hw) (by omega) hs; rw [four] at this; exact this)
    have HS := Lib.hid (fun w (hw : Below W1.heap.size W1 w) => by have := specTable_no (rd_below HR.out hw) (by omega) hs; rw [four] at this; exact this)
    simp only [nilTb] at HI HS
    clear hs
    go_wp2_with fail
    refine (HI.out _ (Below.refl _ _)).mono ?_
    rintro e w2 ⟨rfl, hb2⟩
    have HB2 := Lib.hid hb2
    clear hb2
    go_wp2_with fail
    refine (HS.out _ (HB2.out.alloc HB2.out.size _)).mono ?_
    rintro e w3 ⟨rfl, hb3⟩
    have HB3 := Lib.hid (HB2.out.alloc HB2.out.size _ |>.trans (hb3.mono (by have := HB2.out.size; simp; omega)))
    obtain ⟨x0, x1, x2, x3, _, _, _, _, xl⟩ := (TC.new w2 29 nilTb).below hb3
    simp only [nilTb] at x0 x1 x2 x3
    clear hb3
    have hne : ¬ w2.heap.size = w3.heap.size := by omega
    go_wp2_with (first | simp only [hq] | fail)
    go_ret
    exact ⟨rfl, HBW.out.trans ((Below.alloc HB3.out HB3.out.size _).mono HBW.out.size)⟩
  · have hs : seqB m P = true := by cases h : seqB m P <;> simp_all
    have h60 : m ≤ 60 := by
      unfold seqB at hs
      simp only [Bool.and_eq_true, decide_eq_true_eq] at hs
      exact hs.2
    have HOK := Lib.hid (fun i (hi : i < m) => by
      have := hs
      unfold seqB at this
      simp only [Bool.and_eq_true, List.all_eq_true, List.mem_range] at this
      exact this.1 i hi)
    obtain ⟨tb1, te, tb2⟩ := tabs_ok HOK.out m (by omega) (by omega)
    have tb60 : TB 60 (tabI P m) := ⟨⟨bd_mono tb2.1.1 (by omega), bd_mono tb2.1.2 (by omega)⟩, ⟨bd_mono tb2.2.1.1 (by omega), bd_mono tb2.2.1.2 (by omega)⟩, ⟨bd_mono tb2.2.2.1.1 (by omega), bd_mono tb2.2.2.1.2 (by omega)⟩, ⟨bd_mono tb2.2.2.2.1 (by omega), bd_mono tb2.2.2.2.2 (by omega)⟩⟩
    have hqa := neq_tab (sym_eqt te) (tb_tf (k := 60) tb60 (by omega))
    have HI := Lib.hid (fun w (hw : Below W1.heap.size W1 w) => tableOf_ok (rd_below HR.out hw) h60 hs)
    have HS := Lib.hid (fun w (hw : Below W1.heap.size W1 w) => specTable_ok (rd_below HR.out hw) h60 hs)
    have HV := Lib.hid (fun w (hw : Below W1.heap.size W1 w) => implInv_full (show m ≤ 1048576 by omega) hs w g 0 kc (rd_below HR.out hw))
    have HO1 := Lib.hid (fun w (hw : Below W1.heap.size W1 w) i (hi : i < m) => tableOf_ok (rd_one (c := kc - i) (rd_below HR.out hw) hi) (by omega) (seq_one hs hi))
    have TB60 := Lib.hid tb60
    have HSQ := Lib.hid hs
    generalize tabI P m = M at *
    generalize tabS P m = N at *
    clear te tb1 tb2 tb60 hs
    go_wp2_with fail
    refine (HI.out _ (Below.refl _ _)).mono ?_
    rintro e w2 ⟨rfl, hb2⟩
    have HB2 := Lib.hid hb2
    clear hb2
    go_wp2_with fail
    refine (HS.out _ (HB2.out.alloc HB2.out.size _)).mono ?_
    rintro e w3 ⟨rfl, hb3⟩
    have HB3 := Lib.hid (HB2.out.alloc HB2.out.size _ |>.trans (hb3.mono (by have := HB2.out.size; simp; omega)))
    have HA3 := Lib.hid ((TC.new w2 29 M).below hb3)
    obtain ⟨x0, x1, x2, x3, _, _, _, _, xl⟩ := HA3.out
    clear hb3
    have hne : ¬ w2.heap.size = w3.heap.size := by omega
    go_wp2_with (first | simp only [hqa] | fail)
    refine (HV.out _ (HB3.out.alloc HB3.out.size _)).mono ?_
    rintro e w4 ⟨u, rfl, hb4, hown, b', cap', rfl, hcap⟩
    have HB4 := Lib.hid (HB3.out.alloc HB3.out.size _ |>.trans (hb4.mono (by have := HB3.out.size; simp; omega)))
    have HA4 := Lib.hid ((HA3.out.alloc _).below hb4)
    have HU4 := Lib.hid (own_rd hown)
    have hg4 : m ≠ 0 → g < w4.heap.size := fun h0 => by
      obtain ⟨_, _, hv, hh⟩ := HR.out
      injection hv with q1 _ q3
      subst q1 q3
      obtain ⟨b9, o9, q5, hl, _⟩ := hh (by omega)
      injection q5 with q5
      injection q5 with q6 q7
      subst q6
      have := HB4.out.size
      omega
    clear hb4 hown x0 x1 x2 x3 xl hne hqa hq
    go_wp2_with fail
    go_loopw [10] (fun i wr => ∃ k : Nat, i = .int .i64 k ∧ k ≤ m ∧ Below w4.heap.size w4 wr) (fun i _ => m - (intOf i).toNat)
    case atStart => exact ⟨0, rfl, by omega, Below.refl _ _⟩
    case round =>
      obtain ⟨k, rfl, hk, hb⟩ := hrel
      have HBr := Lib.hid hb
      clear hb
      by_cases hlt : k < m
      · have hlt' : (k : Int) < (m : Int) := by omega
        have hBr1 : Below W1.heap.size W1 wr := HB4.out.trans (HBr.out.mono HB4.out.size)
        have hR1 : Rd wr (.slice (some ⟨g, k * 3, none⟩) 1 (kc - k)) 1 (fun i => P (k + i)) := by
          have := rd_one (c := kc - k) (rd_below HR.out hBr1) hlt
          rwa [Nat.zero_add] at this
        have hU1 : ∀ w, Below wr.heap.size wr w → ∀ c, Rd w (.slice (some ⟨b', (m - 1 - k) * 3, none⟩) 1 c) 1 (fun i => inv (P (m - 1 - (m - 1 - k + i)))) := fun w hw c => by
          have := rd_one (c := c) (rd_below (rd_below HU4.out HBr.out) hw) (show m - 1 - k < m by omega)
          rwa [Nat.zero_add] at this
        have hs1 : seqB 1 (fun i => P (k + i)) = true := seq_one HSQ.out hlt
        have hs2 : seqB 1 (fun i => inv (P (m - 1 - (m - 1 - k + i)))) = true := by
          unfold seqB
          simp only [Bool.and_eq_true, List.all_eq_true, List.mem_range, decide_eq_true_eq]
          exact ⟨fun i hi => inv_ok (HOK.out _ (by omega)), by omega⟩
        have HI1 := Lib.hid (tableOf_ok hR1 (by omega) hs1)
        have HI2 := Lib.hid (fun w hw c => tableOf_ok (hU1 w hw c) (by omega) hs2)
        have hk2 : m - 1 - (m - 1 - k + 0) = k := by omega
        have he : EqT (tabI (fun i => inv (P (m - 1 - (m - 1 - k + i)))) 1) (tabI (fun i => P (k + i)) 1).adj := by
          have := back_eqt (HOK.out k hlt)
          show EqT ((pulseTb (inv (P (m - 1 - (m - 1 - k + 0))))).mul unitI) ((pulseTb (P (k + 0))).mul unitI).adj
          rw [hk2]
          exact this
        have ht1 := (tabs_ok (n := 1) (P := fun i => P (k + i)) (fun i hi => HOK.out _ (by omega)) 1 (by omega) (by omega)).2.2
        have ht2 := (tabs_ok (n := 1) (P := fun i => inv (P (m - 1 - (m - 1 - k + i)))) (fun i hi => inv_ok (HOK.out _ (by omega))) 1 (by omega) (by omega)).2.2
        have HAd := Lib.hid (fun w => by have := adjointOf_ok (tb_tf (k := 1) ht1 (by omega)) w; rw [four, four] at this; exact this)
        have hqk := neq_tab he (tb_tf (k := 1) ht2 (by omega))
        clear he ht1 ht2 hs1 hs2 hU1 hR1 hk2
        generalize tabI (fun i => inv (P (m - 1 - (m - 1 - k + i)))) 1 = C1 at *
        generalize tabI (fun i => P (k + i)) 1 = B1 at *
        generalize B1.adj = D1 at *
        have e1 : (m : Int) - 1 - (k : Int) = ((m - 1 - k : Nat) : Int) := by omega
        have e2 : (m : Int) - (k : Int) = ((m - k : Nat) : Int) := by omega
        go_wp2_with fail
        refine HI1.out.mono ?_
        rintro e w5 ⟨rfl, hb5⟩
        have HB5 := Lib.hid hb5
        clear hb5
        go_wp2_with fail
        rw [show m - k - (m - 1 - k) = 1 by omega]
        refine (HI2.out _ (HB5.out.alloc HB5.out.size _) _).mono ?_
        rintro e w6 ⟨rfl, hb6⟩
        have HB6 := Lib.hid (HB5.out.alloc HB5.out.size _ |>.trans (hb6.mono (by have := HB5.out.size; simp; omega)))
        have X6 := Lib.hid ((TC.new w5 29 B1).below hb6)
        have hs6 := hb6.size
        rw [World.size_alloc] at hs6
        obtain ⟨y0, y1, y2, y3, _, _, _, _, yl⟩ := X6.out
        clear hb6
        have hne1 : ¬ w5.heap.size = w6.heap.size := by omega
        go_wp2_with fail
        refine (HAd.out _).mono ?_
        rintro e w7 ⟨rfl, hb7⟩
        have HB7 := Lib.hid (HB6.out.alloc HB6.out.size _ |>.trans (hb7.mono (by have := HB6.out.size; simp; omega)))
        obtain ⟨z0, z1, z2, z3, _, _, _, _, zl⟩ := (TC.new w6 29 C1).below hb7
        clear hb7 y0 y1 y2 y3 yl hne1
        have hne2 : ¬ w6.heap.size = w7.heap.size := by omega
        go_wp2_with (first | simp only [hqk] | fail)
        go_roundw
        case rel => exact ⟨k + 1, by go_num, by omega, HBr.out.trans ((HB7.out.alloc HB7.out.size _).mono HBr.out.size)⟩
        case measure => simp [intOf]; omega
      · have he : k = m := by omega
        subst he
        have hlt' : ¬ ((k : Int) < (k : Int)) := by omega
        have hBt : Below W.heap.size W wr := HBW.out.trans ((HB4.out.trans (HBr.out.mono HB4.out.size)).mono HBW.out.size)
        have HBt := Lib.hid hBt
        have hcw := code_below HCode.out hBt
        have HRl := Lib.hid (roll_any wr _ len wr.heap.size wr hcw hlen rfl (Below.refl _ _))
        have HDi := Lib.hid (fun w hs => below_any wr _ len wr.heap.size 9 w hcw hlen hs (by omega) (by omega))
        have HA := Lib.hid (HA4.out.below HBr.out)
        have hAl := HA.out.lt
        clear hcw hBt hg4 HU4 HR HV HO1 HSQ HI HS HB2 HB3 HA3 HA4 HBr HB4 hkc hm hcap
        go_wp2_with fail
        refine HRl.out.mono ?_
        rintro e w5 ⟨rfl, hs5⟩
        have HS5 := Lib.hid hs5
        clear hs5
        go_wp2_with fail
        refine (HDi.out _ HS5.out).mono ?_
        rintro e w6 ⟨x, rfl, x0, x9, hs6, _⟩
        have HS6 := Lib.hid hs6
        have hBx := (die_ok x0 x9).2
        obtain ⟨cx, sx⟩ := die_runs x0 x9
        clear hs6
        go_wp2_with fail
        refine (HDi.out _ HS6.out).mono ?_
        rintro e w7 ⟨y, rfl, y0, y9, hs7, _⟩
        have HS7 := Lib.hid hs7
        have hBy := (die_ok y0 y9).2
        obtain ⟨cy, sy⟩ := die_runs y0 y9
        clear hs7
        go_wp2_with fail
        refine (HDi.out _ HS7.out).mono ?_
        rintro e w8 ⟨z, rfl, z0, z9, hs8, _⟩
        have HS8 := Lib.hid hs8
        have hBz := (die_ok z0 z9).2
        obtain ⟨cz, sz⟩ := die_runs z0 z9
        have HA8 := Lib.hid (HA.out.below hs8.old)
        obtain ⟨m0, m1, m2, m3, _, _, _, _, ml⟩ := HA8.out
        have hs8l := hs8.old.size
        have hv := vec_tb hBx hBy hBz
        have HT1 := Lib.hid (fun w => turnVector_ok TB60.out hv (bd_num hBx (by omega)) (bd_num hBy (by omega)) (bd_num hBz (by omega)) w)
        have HT2 := Lib.hid (fun w => turnVector_ok (opp_tb TB60.out) hv (bd_num hBx (by omega)) (bd_num hBy (by omega)) (bd_num hBz (by omega)) w)
        have hmo := made_opp TB60.out hv
        have hmb := (made_ok TB60.out hv).2.2
        have hqv := neq_vec hmo.2.2.1.1 hmo.2.2.1.2 hmo.1.1 (bd_fin hmb.2.2.1.1 (by omega)) (bd_fin hmb.2.2.1.2 (by omega)) (bd_fin hmb.1.1 (by omega))
        have V8 := Lib.hid ((VC.new w8 41 (dieW x) (dieW y) (dieW z)).alloc (.cells #[.complex .f32 M.opp.a.re M.opp.a.im, .complex .f32 M.opp.b.re M.opp.b.im, .complex .f32 M.opp.c.re M.opp.c.im, .complex .f32 M.opp.d.re M.opp.d.im] 29))
        have o8 := TC.new (w8.alloc (.cells #[.float .f32 (dieW x), .float .f32 (dieW y), .float .f32 (dieW z)] 41)) 29 M.opp
        rw [World.size_alloc] at o8
        have O8 := Lib.hid o8
        have S8 := Lib.hid ((HS8.out.alloc (.cells #[.float .f32 (dieW x), .float .f32 (dieW y), .float .f32 (dieW z)] 41)).alloc (.cells #[.complex .f32 M.opp.a.re M.opp.a.im, .complex .f32 M.opp.b.re M.opp.b.im, .complex .f32 M.opp.c.re M.opp.c.im, .complex .f32 M.opp.d.re M.opp.d.im] 29))
        clear hs8 hmo hmb hv o8
        generalize madeOf M (vecTb (dieW x) (dieW y) (dieW z)) = R1 at *
        generalize madeOf M.opp (vecTb (dieW x) (dieW y) (dieW z)) = R2 at *
        have hne8 : ¬ w2.heap.size = w8.heap.size := by omega
        go_wp2_with fail
        refine (HT1.out _).mono ?_
        rintro e w9 ⟨rfl, hb9⟩
        have V9 := Lib.hid (V8.out.below hb9)
        have O9 := Lib.hid (O8.out.below hb9)
        have S9 := Lib.hid (S8.out.below hb9)
        have A9 := Lib.hid (((HA8.out.alloc _).alloc _).below hb9)
        obtain ⟨v0, v1, v2, _, _, _, vl⟩ := V9.out
        obtain ⟨o0, o1, o2, o3, _, _, _, _, ol⟩ := O9.out
        clear hb9 m0 m1 m2 m3 ml
        have hn9 : ¬ w8.heap.size = w9.heap.size := by omega
        have hn9b : ¬ w8.heap.size + 1 = w9.heap.size := by omega
        go_wp2_with fail
        refine (HT2.out _).mono ?_
        rintro e w10 ⟨rfl, hb10⟩
        have S10 := Lib.hid ((S9.out.alloc _).below hb10)
        have A10 := Lib.hid ((A9.out.alloc _).below hb10)
        obtain ⟨r0, r1, r2, _, _, _, rl⟩ := (VC.new w9 41 R1.c.re R1.c.im R1.a.re).below hb10
        clear hb10 v0 v1 v2 vl o0 o1 o2 o3 ol V8 O8 S8 V9 O9 S9 A9 HA8
        have hn10 : ¬ w9.heap.size = w10.heap.size := by omega
        go_wp2_with (first | simp only [hqv] | fail)
        have d0 := TC.new (w10.alloc (.cells #[.float .f32 R2.c.re, .float .f32 R2.c.im, .float .f32 R2.a.re] 41)) 45 nilTb
        rw [World.size_alloc] at d0
        have D0 := Lib.hid d0
        have S11 := Lib.hid ((S10.out.alloc (.cells #[.float .f32 R2.c.re, .float .f32 R2.c.im, .float .f32 R2.a.re] 41)).alloc (.cells #[.complex .f32 0 0, .complex .f32 0 0, .complex .f32 0 0, .complex .f32 0 0] 45))
        have hlD := S10.out.lies
        clear d0 r0 r1 r2 rl hn10 hqv A10 S10 HT1 HT2 HRl HS5 HS6 HS7 HS8
        go_loopw [25] (fun i wp => ∃ j : Nat, i = .int .i64 j ∧ j ≤ 4 ∧ ∃ q, TB 2 q ∧ TC wp (w10.heap.size + 1) q ∧ Src wr (.slice a len cap) len wr.heap.size wp) (fun i _ => 4 - (intOf i).toNat)
        case atStart => exact ⟨0, rfl, by omega, nilTb, nil_tb, D0.out, S11.out⟩
        case round =>
          obtain ⟨j, rfl, hj, q, hq2, hqc, hqs⟩ := hrel
          have HQC := Lib.hid hqc
          have HQS := Lib.hid hqs
          clear hqc hqs
          by_cases hj4 : j < 4
          · have hj4' : (j : Int) < 4 := by omega
            go_wp2_with fail
            refine (HDi.out _ HQS.out).mono ?_
            rintro e w11 ⟨x', rfl, x0', x9', hs11, ho11⟩
            have HS11 := Lib.hid hs11
            have HQ11 := Lib.hid (HQC.out.only ho11 (by omega))
            have hBx' := (die_ok x0' x9').2
            obtain ⟨cx', sx'⟩ := die_runs x0' x9'
            clear hs11 ho11
            go_wp2_with fail
            refine (HDi.out _ HS11.out).mono ?_
            rintro e w12 ⟨y', rfl, y0', y9', hs12, ho12⟩
            have HS12 := Lib.hid hs12
            have HQ12 := Lib.hid (HQ11.out.only ho12 (by omega))
            have hBy' := (die_ok y0' y9').2
            obtain ⟨cy', sy'⟩ := die_runs y0' y9'
            obtain ⟨⟨vj, hcj⟩, hfj⟩ := HQ12.out.at hj4
            clear hs12 ho12
            go_wp2_with fail
            go_roundw
            case rel => exact ⟨j + 1, by go_num, by omega, q.set ⟨dieW x', dieW y'⟩ j, set_tb j hq2 ⟨hBx', hBy'⟩, HQ12.out.set hj4 ⟨dieW x', dieW y'⟩, HS12.out.put (by omega) (by omega) _ _⟩
            case measure => simp [intOf]; omega
          · have he4 : j = 4 := by omega
            subst he4
            have hj4' : ¬ (((4 : Nat) : Int) < 4) := by omega
            have HAp := Lib.hid (HA.out.below HQS.out.old)
            obtain ⟨m0, m1, m2, m3, _, _, _, _, ml⟩ := HAp.out
            obtain ⟨q0, q1, q2, q3, _, _, _, _, ql⟩ := HQC.out
            have hpb : PB 2 ⟨q.a, q.b, q.c, q.d⟩ := hq2
            have HF := Lib.hid (fun w => by have := T1.out M ⟨q.a, q.b, q.c, q.d⟩ w TB60.out hpb; unfold Pr.v at this; exact this)
            have HW1 := Lib.hid (fun w => by have := T3.out ⟨q.a, q.b, q.c, q.d⟩ 2 w hpb (by omega); unfold Pr.v Pr.swap at this; exact this)
            have HG := Lib.hid (fun w => by have := T2.out M ⟨q.a, q.c, q.b, q.d⟩ w TB60.out (swap_pb hpb); unfold Pr.v at this; exact this)
            have HW2 := Lib.hid (fun w => by have := T3.out (onSecond M ⟨q.a, q.c, q.b, q.d⟩) 64 w (second_ok TB60.out (swap_pb hpb)).1 (by omega); unfold Pr.v at this; exact this)
            have hfs : (onSecond M ⟨q.a, q.c, q.b, q.d⟩).swap = onFirst M ⟨q.a, q.b, q.c, q.d⟩ := rfl
            rw [hfs] at HW2
            have hql := eql_pair (first_ok TB60.out hpb).1 (k := 64) (by omega)
            clear hfs hpb
            generalize onFirst M ⟨q.a, q.b, q.c, q.d⟩ = F at *
            generalize onSecond M ⟨q.a, q.c, q.b, q.d⟩ = G at *
            have hBz := HBt.out.trans (HQS.out.old.mono HBt.out.size)
            have HBz := Lib.hid hBz
            clear hBz
            go_wp2_with fail
            refine (HF.out _).mono ?_
            rintro e w13 ⟨rfl, hb13⟩
            have HQ13 := Lib.hid (HQC.out.below hb13)
            have HA13 := Lib.hid (HAp.out.below hb13)
            have HB13 := Lib.hid (HBz.out.trans (hb13.mono HBz.out.size))
            have F13 := Lib.hid (TC.new w13 45 ⟨F.a, F.b, F.c, F.d⟩)
            clear hb13 q0 q1 q2 q3 ql m0 m1 m2 m3 ml
            obtain ⟨q0, q1, q2, q3, _, _, _, _, ql⟩ := HQ13.out
            have n13 : ¬ w10.heap.size + 1 = w13.heap.size := by omega
            go_wp2_with fail
            refine (HW1.out _).mono ?_
            rintro e w14 ⟨rfl, hb14⟩
            have HA14 := Lib.hid ((HA13.out.alloc _).below hb14)
            have HB14 := Lib.hid ((HB13.out.alloc HB13.out.size _).trans (hb14.mono (by have := HB13.out.size; simp; omega)))
            have F14 := Lib.hid (F13.out.below hb14)
            have fl14 := F14.out.lt
            clear hb14 q0 q1 q2 q3 ql n13
            obtain ⟨m0, m1, m2, m3, _, _, _, _, ml⟩ := HA14.out
            have n14 : ¬ w2.heap.size = w14.heap.size := by omega
            go_wp2_with fail
            refine (HG.out _).mono ?_
            rintro e w15 ⟨rfl, hb15⟩
            have HB15 := Lib.hid ((HB14.out.alloc HB14.out.size _).trans (hb15.mono (by have := HB14.out.size; simp; omega)))
            have F15 := Lib.hid ((F14.out.alloc _).below hb15)
            have fl15 := F15.out.lt
            clear hb15 m0 m1 m2 m3 ml n14
            go_wp2_with fail
            refine (HW2.out _).mono ?_
            rintro e w16 ⟨rfl, hb16⟩
            have HB16 := Lib.hid ((HB15.out.alloc HB15.out.size _).trans (hb16.mono (by have := HB15.out.size; simp; omega)))
            have F16 := Lib.hid ((F15.out.alloc _).below hb16)
            obtain ⟨g0, g1, g2, g3, _, _, _, _, gl⟩ := F16.out
            simp only at g0 g1 g2 g3
            clear hb16
            have n16 : ¬ w13.heap.size = w16.heap.size := by omega
            go_wp2_with (first | simp only [hql] | fail)
            go_ret
            exact ⟨rfl, HB16.out.alloc HB16.out.size _⟩

end Go.Proofs.Ytlglbinalocilaa
