/- FnNumbers. -/
import Derived.Test.YtffilcmcjelajaaNumB
import Derived.Deep.DeepCutAuto
namespace Go.Proofs.Ytffilcmcjelajaa
open Go.RowKit

namespace Numbers

theorem big_any (W : World) (c : Value) (len : Nat) (w : World) (h : Code W c len) :
    Calls Try.prog 6 #[c] w fun e w' => e = .returned (.bool (decide ((4096 : Int) < (len : Int)))) ∧ w = w' := by
  obtain ⟨a, cap, rfl, _⟩ := h
  generalize hn : (len : Int) = n
  go_enter Try.func6, Try.ntmps6
  go_wp2_with fail
  go_ret
  exact ⟨rfl, rfl⟩

theorem root_pack (x : Nat) (hx : x < 4294967296) : ∃ (r o : Nat) (code : Int),
    (∀ w, Calls Try.prog 14 #[.float .f32 x] w fun e w' => e = .returned (.tuple #[.float .f32 r, .int .i64 code]) ∧ w = w') ∧
    (∀ w, Calls Try.prog 15 #[.float .f32 x] w fun e w' => e = .returned (.tuple #[.float .f32 o, .int .i64 code]) ∧ ∃ n, w.drewN n = w') ∧
    FloatKind.f32.format.order r o = some .eq ∧ r < 4294967296 ∧
    (1 ≤ code ∨ (code = 0 ∧ ((FloatKind.f32.format.order r 0 == some .gt) = false ∨ ((FloatKind.f32.format.order r 0 == some .gt) = true ∧ RootFacts x r)))) := by
  by_cases hno : fin x = false ∨ less0 x = true
  · obtain ⟨code, hc, hi, hs⟩ := noRoot x hx hno
    exact ⟨0, 0, code, hi, hs, by decide +kernel, by omega, .inl (by omega)⟩
  · have hfin : fin x = true := by
      cases h : fin x
      · exact absurd (.inl h) hno
      · rfl
    have hl : less0 x = false := by
      cases h : less0 x
      · rfl
      · exact absurd (.inr h) hno
    obtain ⟨s, m, p, rfl, hf, hc⟩ := fin_cases x hx hfin
    have hb : m < 16777216 ∧ -149 ≤ p ∧ p ≤ 104 := by omega
    have hs : s = true → m = 0 := by
      intro h
      have := less0_S s m p hf
      rw [hl, h] at this
      simpa using this
    have hi := fun w => implRoot s m p w hx hfin hb.1 hb.2.1 hb.2.2 hf hs
    have hsp := fun w => specRoot s m p w hx hfin hb.1 hb.2.1 hb.2.2 hf hs
    by_cases h0 : m = 0
    · have e1 : rootBits s m p = Ieee.single.word s 0 := if_pos h0
      rw [e1] at hi hsp
      rw [if_pos h0] at hsp
      refine ⟨_, _, 0, hi, fun w => (hsp w).mono fun e w' ⟨a, b⟩ => ⟨a, 0, b⟩, ?_, ?_, .inr ⟨rfl, .inl ?_⟩⟩
      · cases s <;> decide +kernel
      · cases s <;> decide +kernel
      · cases s <;> decide +kernel
    · have hsf : s = false := by cases s <;> simp_all
      subst hsf
      have e1 : rootBits false m p = S false (Flt.rR m p) (-Flt.rk m p) := if_neg h0
      rw [if_neg h0] at hsp
      rw [e1] at hi hsp
      obtain ⟨f1, f2⟩ := root_facts m p h0 hb.1 hb.2.1 hb.2.2 hf
      have hpc := f1.1
      have hrf : fin (S false (Flt.rR m p) (-Flt.rk m p)) = true := by
        unfold pc at hpc
        cases h : fin (S false (Flt.rR m p) (-Flt.rk m p))
        · rw [h] at hpc; simp at hpc
        · rfl
      have hrl : S false (Flt.rR m p) (-Flt.rk m p) < 4294967296 := Ieee.Format.nearest_lt Ieee.single _ _ _
      exact ⟨_, _, 0, hi, fun w => (hsp w).mono fun e w' ⟨a, b⟩ => ⟨a, 0, b⟩, order_selfS _ hrl hrf, hrl, .inr ⟨rfl, .inr ⟨f2, f1⟩⟩⟩

def LawPost (W : World) (e : Ending) (w' : World) : Prop := e = .returned (.bool true) ∧ Below W.heap.size W w'

theorem implPl (x : Nat) (hx : x < 4294967296) (w : World) : Calls Try.prog 8 #[.float .f32 x] w fun e w' => e = .returned (.tuple #[.int .i64 (pv x), .int .i64 (pc x)]) ∧ w = w' := by
  have := implPlaceOf x w hx
  rw [placeRes_eq] at this; exact this
theorem specPl (x : Nat) (hx : x < 4294967296) (w : World) : Calls Try.prog 9 #[.float .f32 x] w fun e w' => e = .returned (.tuple #[.int .i64 (pv x), .int .i64 (pc x)]) ∧ ∃ n, w.drewN n = w' := by
  have := specPlaceOf x w hx
  rw [placeRes_eq] at this; exact this
theorem implAt (i : Int) (h : InI64 i) (w : World) : Calls Try.prog 10 #[.int .i64 i] w fun e w' => e = .returned (.tuple #[.float .f32 (av i), .int .i64 (ac i)]) ∧ w = w' := by
  have := implFloatAt i w h.1 h.2
  rw [atRes_eq] at this; exact this
theorem specAt (i : Int) (w : World) : Calls Try.prog 12 #[.int .i64 i] w fun e w' => e = .returned (.tuple #[.float .f32 (av i), .int .i64 (ac i)]) ∧ w = w' := by
  have := specFloatAt i w
  rw [atRes_eq] at this; exact this
theorem implSt (x y : Nat) (hx : x < 4294967296) (hy : y < 4294967296) (w : World) : Calls Try.prog 17 #[.float .f32 x, .float .f32 y] w fun e w' => e = .returned (.tuple #[.int .i64 (stv x y), .int .i64 (stc x y)]) ∧ w = w' := by
  have := implSteps x y w hx hy
  rw [stepsRes_eq] at this; exact this
theorem specSt (x y : Nat) (hx : x < 4294967296) (hy : y < 4294967296) (w : World) : Calls Try.prog 18 #[.float .f32 x, .float .f32 y] w fun e w' => e = .returned (.tuple #[.int .i64 (stv x y), .int .i64 (stc x y)]) ∧ ∃ n, w.drewN n = w' := by
  have := specSteps x y w hx hy
  rw [stepsRes_eq] at this; exact this

set_option maxRecDepth 100000 in
set_option maxHeartbeats 4000000 in
theorem law_true (c : Value) (len : Nat) (W : World) (hcode : Code W c len) :
    Calls Try.prog 3 #[c] W (LawPost W) := by
  have HCode := Lib.hid hcode
  clear hcode
  by_cases hlen : (len : Int) ≤ 4096
  · have hbig : decide ((4096 : Int) < (len : Int)) = false := decide_eq_false (by omega)
    have HBig := Lib.hid (fun w => hbig ▸ big_any W c len w HCode.out)
    have HL := Lib.hid hlen
    clear hbig hlen
    go_enter Try.func3, Try.ntmps3
    go_wp2_with fail
    refine (HBig.out _).mono ?_
    rintro e w1 ⟨rfl, rfl⟩
    clear HBig
    go_wp2_with fail
    refine (drawPlaceOf W c len _ HCode.out HL.out (Below.refl _ _)).mono ?_
    rintro e w1 ⟨x, rfl, hx, hb1⟩
    have HB1 := Lib.hid hb1
    have HX := Lib.hid hx
    clear hb1 hx
    go_wp2_with fail
    refine (implPl x HX.out _).mono ?_
    rintro e w2 ⟨rfl, rfl⟩
    go_wp2_with fail
    refine (specPl x HX.out _).mono ?_
    rintro e w2 ⟨rfl, n1, rfl⟩
    go_upto_if 63 with (fail)
    go_cut [8, 9, 10, 11] (fun _ _ _ _ wc => Below W.heap.size W wc)
    case first => as_aux_lemma =>
      cases hf : fin x
      · have hpc : (pc x == 0) = false := by unfold pc; rw [hf]; rfl
        clear hf
        go_wp2_with fail
        go_meet
        exact below_drewN' HB1.out _
      · have hpv : pv x = place x := if_pos hf
        have hpc : (pc x == 0) = true := by unfold pc; rw [hf]; rfl
        obtain ⟨_, a2, a3⟩ := at_place x HX.out hf
        obtain ⟨z, z1, z2, z3, z4⟩ := place_neg x HX.out hf
        rw [← hpv] at a2 a3 z3
        obtain ⟨b1, b2⟩ := pv_bd x
        have HI := Lib.hid (show InI64 (pv x) by unfold InI64; omega)
        have HZ := Lib.hid z1
        clear hpv hf z1
        go_wp2_with fail
        refine (implAt _ HI.out _).mono ?_
        rintro e w3 ⟨rfl, rfl⟩
        go_wp2_with fail
        refine (implPl z HZ.out _).mono ?_
        rintro e w3 ⟨rfl, rfl⟩
        go_wp2_with fail
        go_meet
        exact below_drewN' HB1.out _
    case rest => as_aux_lemma =>
      have HW := Lib.hid hcut
      clear hcut HB1 HX
      go_wp2_with fail
      refine (drawFloatAt W c len _ HCode.out HL.out HW.out).mono ?_
      rintro e w3 ⟨i, rfl, hi1, hi2, hb3⟩
      have HI : Hid (InI64 i) := Lib.hid ⟨hi1, hi2⟩
      have HB3 := Lib.hid hb3
      clear hi1 hi2 hb3
      have hself := order_selfS (av i) (av_fin i).1 (av_fin i).2
      go_wp2_with fail
      refine (implAt i HI.out _).mono ?_
      rintro e w4 ⟨rfl, rfl⟩
      go_wp2_with fail
      refine (specAt i _).mono ?_
      rintro e w4 ⟨rfl, rfl⟩
      go_upto_if 113 with (fail)
      go_cut [17, 18] (fun _ _ wc => Below W.heap.size W wc)
      case first => as_aux_lemma =>
        by_cases ha : ac i = 0
        · have hac : (ac i == 0) = true := by rw [ha]; rfl
          obtain ⟨p1, p2⟩ := place_at i ha
          have HA := Lib.hid (av_fin i).1
          clear ha
          go_wp2_with fail
          refine (implPl _ HA.out _).mono ?_
          rintro e w4 ⟨rfl, rfl⟩
          go_wp2_with fail
          go_meet
          exact HB3.out
        · have hac : (ac i == 0) = false := by simpa using ha
          clear ha
          go_wp2_with fail
          go_meet
          exact HB3.out
      case rest => as_aux_lemma =>
        have HW2 := Lib.hid hcut
        clear hcut HB3 HI HW hself
        go_wp2_with fail
        refine (drawRootOf W c len _ HCode.out HL.out HW2.out).mono ?_
        rintro e w4 ⟨a, rfl, ha, hb4⟩
        have HB4 := Lib.hid hb4
        clear hb4
        obtain ⟨r, o, code, h1, h2, h3, h4, h5⟩ := root_pack a ha
        have H1 := Lib.hid h1
        have H2 := Lib.hid h2
        have H5 := Lib.hid h5
        have HR := Lib.hid h4
        clear h1 h2 h4 h5 ha
        go_wp2_with fail
        refine (H1.out _).mono ?_
        rintro e w5 ⟨rfl, rfl⟩
        go_wp2_with fail
        refine (H2.out _).mono ?_
        rintro e w5 ⟨rfl, n2, rfl⟩
        go_upto_region 27 with (fail)
        go_cut [151] (fun s wc => ∃ b : Bool, s = .bool b ∧ (b = true → RootFacts a r) ∧ Below W.heap.size W wc)
        case first => as_aux_lemma =>
          rcases H5.out with g | ⟨g, g2 | ⟨g2, g3⟩⟩
          · have hc : (code == 0) = false := by simp; omega
            clear g
            go_wp2_with fail
            go_meet
            exact ⟨false, rfl, by simp, below_drewN' HB4.out _⟩
          · have hc : (code == 0) = true := by rw [g]; rfl
            clear g
            go_wp2_with fail
            go_meet
            exact ⟨false, rfl, by simp, below_drewN' HB4.out _⟩
          · have hc : (code == 0) = true := by rw [g]; rfl
            have G3 := Lib.hid g3
            clear g g3
            go_wp2_with fail
            go_meet
            exact ⟨true, rfl, fun _ => G3.out, below_drewN' HB4.out _⟩
        case rest => as_aux_lemma =>
          obtain ⟨b, rfl, hfacts, hbw⟩ := hcut
          have HFa := Lib.hid hfacts
          have HB5 := Lib.hid hbw
          clear hfacts hbw HB4 H5 H1 H2 h3
          go_upto_if 151 with (fail)
          go_cut [24, 25, 26, 27, 28, 29, 30, 31] (fun _ _ _ _ _ _ _ _ wc => Below W.heap.size W wc)
          case first => as_aux_lemma =>
            cases b
            · go_wp2_with fail
              go_meet
              exact HB5.out
            · obtain ⟨f1, f2, f3, f4, f5, lo, ro, hi, xo, s1, u, s1u, s2, v, s2v, c1, c2, c3, c4, d1, d2, d3, d4, d5, d6, d7, d8⟩ := HFa.out rfl
              have conv : ∀ {y z : Nat}, floatToFloatBits .f32 y .f64 = some z → ∀ w, (convert 24 32 (.float .f32 y)).run Try.prog w = .ok (.float .f64 z) w := fun h w => run_convert_float_float w 24 32 .f32 .f64 _ _ (by rw [Try.underlying24]; rfl) Try.underlying32 h
              have c1 := conv c1
              have c2 := conv c2
              have c3 := conv c3
              have c4 := conv c4
              have d1 := fun t w => run_float_arith (P := Try.prog) w .add t .f64 _ _ _ d1
              have d2 := fun t w => run_float_arith (P := Try.prog) w .quo t .f64 _ _ _ d2
              have d3 := fun t w => run_float_arith (P := Try.prog) w .mul t .f64 _ _ _ d3
              have d5 := fun t w => run_float_arith (P := Try.prog) w .add t .f64 _ _ _ d5
              have d6 := fun t w => run_float_arith (P := Try.prog) w .quo t .f64 _ _ _ d6
              have d7 := fun t w => run_float_arith (P := Try.prog) w .mul t .f64 _ _ _ d7
              clear conv
              have HI1 := Lib.hid (show InI64 (pv r - 1) by unfold InI64; omega)
              have HI2 := Lib.hid (show InI64 (pv r + 1) by unfold InI64; omega)
              go_wp2_with fail
              refine (implPl r HR.out _).mono ?_
              rintro e w6 ⟨rfl, rfl⟩
              go_wp2_with fail
              refine (implAt _ HI1.out _).mono ?_
              rintro e w6 ⟨rfl, rfl⟩
              go_wp2_with fail
              refine (implAt _ HI2.out _).mono ?_
              rintro e w6 ⟨rfl, rfl⟩
              go_wp2_with fail
              go_meet
              exact HB5.out
          case rest => as_aux_lemma =>
            have HW3 := Lib.hid hcut
            clear hcut HB5 HFa HR
            go_wp2_with fail
            refine (drawSteps W c len _ HCode.out HL.out HW3.out).mono ?_
            rintro e w6 ⟨x2, y2, rfl, hx2, hy2, hb6⟩
            have HB6 := Lib.hid hb6
            have HX2 := Lib.hid hx2
            have HY2 := Lib.hid hy2
            clear hb6 hx2 hy2
            go_wp2_with fail
            refine (implSt x2 y2 HX2.out HY2.out _).mono ?_
            rintro e w7 ⟨rfl, rfl⟩
            go_wp2_with fail
            refine (specSt x2 y2 HX2.out HY2.out _).mono ?_
            rintro e w7 ⟨rfl, n3, rfl⟩
            go_upto_if 231 with (fail)
            cases hf : fin x2 && fin y2
            · have hc : (stc x2 y2 == 0) = false := by unfold stc; rw [hf]; rfl
              clear hf
              go_wp2_with fail
              go_ret
              exact ⟨rfl, below_drewN' HB6.out _⟩
            · have hc : (stc x2 y2 == 0) = true := by unfold stc; rw [hf]; rfl
              have hf2 : fin y2 && fin x2 := by rw [Bool.and_comm]; exact hf
              have hc2 : stc y2 x2 = 0 := if_pos hf2
              have hv2 : stv y2 x2 = stv x2 y2 := by
                unfold stv
                rw [if_pos hf, if_pos hf2]
                unfold dist; split <;> split <;> omega
              obtain ⟨fx, fy⟩ := Bool.and_eq_true_iff.1 hf
              have he := eq_places x2 y2 HX2.out HY2.out fx fy
              have hz : (stv x2 y2 == 0) = (FloatKind.f32.format.order x2 y2 == some .eq) := by
                rw [he, Bool.eq_iff_iff, beq_iff_eq, decide_eq_true_eq]
                unfold stv dist
                rw [if_pos hf]
                split <;> omega
              clear hf hf2 fx fy he
              go_wp2_with fail
              refine (implSt y2 x2 HY2.out HX2.out _).mono ?_
              rintro e w8 ⟨rfl, rfl⟩
              go_wp2_with fail
              go_ret
              exact ⟨rfl, below_drewN' HB6.out _⟩
  · have hbig : decide ((4096 : Int) < (len : Int)) = true := decide_eq_true (by omega)
    have HBig := Lib.hid (fun w => hbig ▸ big_any W c len w HCode.out)
    clear hbig hlen
    go_enter Try.func3, Try.ntmps3
    go_wp2_with fail
    refine (HBig.out _).mono ?_
    rintro e w1 ⟨rfl, rfl⟩
    go_wp2_with fail
    go_ret
    exact ⟨rfl, Below.refl _ _⟩
end Numbers
end Go.Proofs.Ytffilcmcjelajaa
