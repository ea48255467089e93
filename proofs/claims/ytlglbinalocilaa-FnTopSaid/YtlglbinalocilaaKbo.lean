/- For every list of bytes: a drawn sequence of pulses has the table that the specification tells, its inverse has the tables with adjoints in the other order, opposite tables make the same of vectors, and swapped pairs are turned at the other spin: the law FnTop returns true, and its argument reads as before. Walks: pairs of the program: rows, what is a pair, swapped pairs. Walks: pairs of the program: both rows, what is a pair, swapped pairs. -/
import Derived.Test.YtlglbinalocilaaUb
import Derived.Test.YtlglbinalocilaaKam
import Derived.Test.YtlglbinalocilaaKaz
import Derived.ProofKit
import Derived.OpenShut
import Derived.ChangeOld
import Derived.Below
import Derived.Deep.RegionHeld3
namespace Go.Proofs.Ytlglbinalocilaa
open Go.ChangeShapes Go.WideShapes Go.ChangeAt Go.RowKit

namespace fnTop

theorem own : ownKnob Try.prog.godebug = none := by kernel_rfl
theorem laidOut : laidOutB Try.prog = true := by kernel_rfl

def IsRow (k : IntKind) (w : World) (a : Option Addr) (len cap : Nat) (zs : List Int) : Prop :=
  (a = none ∧ len = 0 ∧ cap = 0 ∧ zs = []) ∨
  ∃ x, a = some x ∧ len ≤ cap ∧ cap ≤ maxLen ∧ zs.length = cap ∧ (∀ i, i < zs.length → w.cell? (x.add i) = some (.int k (zs.getD i 0))) ∧ ∀ n ∈ zs, (Lit.int k n).wf = true

theorem u8_bounds {a : Int} (h : (Lit.int .u8 a).wf = true) : 0 ≤ a ∧ a < 256 := by
  have h1 : IntKind.u8.min = 0 := by decide +kernel
  have h2 : IntKind.u8.max = 255 := by decide +kernel
  simp only [Lit.wf, Bool.and_eq_true, decide_eq_true_eq, h1, h2] at h
  omega

theorem cell_lt {w : World} {a : Addr} {v : Value} (h : w.cell? a = some v) : a.block < w.heap.size := by
  unfold World.cell? at h
  split at h
  · rename_i hb; exact (Array.getElem?_eq_some_iff.1 hb).1
  · cases h

theorem code_of (a0 : Option Addr) (len cap : Nat) (zs : List Int) (w : World) (h : IsRow .u8 w a0 len cap zs) : Code w (.slice a0 len cap) len := by
  refine ⟨a0, cap, rfl, fun h0 => ?_⟩
  rcases h with ⟨rfl, rfl, rfl, rfl⟩ | ⟨⟨b, off, spot⟩, rfl, hl, hm, hz, hcell, hwz⟩
  · omega
  · have hc := hcell 0 (by omega)
    have hspot : spot = none := by simpa [Addr.add] using World.cell?_spot hc
    subst hspot
    refine ⟨b, off, rfl, ?_, ?_⟩
    · have := cell_lt hc
      simpa [Addr.add] using this
    · intro j j0 j1
      obtain ⟨i, rfl⟩ := Int.eq_ofNat_of_zero_le j0
      have hi : i < zs.length := by omega
      have hci := hcell i hi
      have hmem : zs.getD i 0 ∈ zs := by
        rw [List.getD_eq_getElem?_getD, List.getElem?_eq_getElem hi]; exact List.getElem_mem hi
      obtain ⟨b1, b2⟩ := u8_bounds (hwz _ hmem)
      have ha : (⟨b, off, none⟩ : Addr).add i = ⟨b, off + i, none⟩ := by
        unfold Addr.add
        split <;> simp_all
      rw [ha] at hci
      exact ⟨zs.getD i 0, by simpa using hci, b1, b2⟩

theorem walk (H1 : FirstOk) (H2 : SecondOk) (H3 : SwapOk) (a0 : Option Addr) (len0 cap0 : Nat) (z0 : List Int) (w : World) (w0 : IsRow .u8 w a0 len0 cap0 z0) :
    Calls Try.prog 3 #[.slice a0 len0 cap0] w fun e w' => e = .returned (.bool true) ∧ Below w.heap.size w w' :=
  law_top H1 H2 H3 _ len0 w (code_of a0 len0 cap0 z0 w w0)

set_option maxRecDepth 100000 in
theorem lifted (H1 : FirstOk) (H2 : SecondOk) (H3 : SwapOk) (os : Os) (started : os.Started) (H : Type) (enc : TypeId × Value → H) :
    ReturnsInHanded {} Try.checked os 3 .any (Rows.fnTopSpec.pre6 enc Try.prog Try.f3 Rows.fnTopRow.domain false) (Rows.fnTopSpec.post enc Try.prog Try.f3 false true false false) := by
  refine returnsInHanded_of_change (C := Try.checked) own started (by kernel_rfl) Try.func3
    (ChangeSpec.witness6 (enc := enc) (C := Try.checked) false ⟨#[], #[.slice none 0 0], []⟩ 8 (by kernel_rfl) (by kernel_rfl) (by kernel_rfl) (by kernel_rfl)) ?_
  intro W base args ds gs before hval0 hW hcnd _
  have hval : ∀ (j : Nat) t v, Try.f3.params[j]? = some t → args[j]? = some v → Value.okWide Try.prog W .any base t v := hval0
  have hW' := hW
  obtain ⟨p, q, hA0, hV, rfl, hfz, hnd⟩ := hW
  have hA : DataW.TrodAll enc Try.prog W 0 (fun _ => true) true Try.f3.params.toList args.toList ds p := hA0
  rw [Try.params3] at hA hval
  obtain ⟨v0, vs0, d0, ds0, p0, q0, hargs, rfl, rfl, h0, r0⟩ := trodAll_cons hA
  obtain ⟨rfl, rfl, rfl⟩ := trodAll_nil r0
  obtain rfl : args = #[v0] := by cases args; simp_all
  obtain ⟨rfl, rfl⟩ := trodVars_none hV
  obtain ⟨a0, len0, cap0, rfl⟩ := okWide_slice Try.underlying22 (hval 0 22 v0 rfl rfl)
  have k0 := h0
  have lt0 : ∀ x ∈ p0, x.block < W.heap.size := by obtain ⟨m, hm⟩ := k0; exact DataW.trod_lt m _ _ _ hm
  obtain ⟨z0, w0⟩ : ∃ zs, IsRow .u8 W a0 len0 cap0 zs := by
    obtain ⟨fuel, hf⟩ := h0
    rcases open_ints Try.underlying22 Try.underlying5 (by kernel_rfl) hf with ⟨hcs, _⟩ | ⟨x, l, c, zs, hcs, _, hl, hm, hz, _, hcell, hwz⟩
    · simp [Value.cells] at hcs
      obtain ⟨rfl, rfl, rfl⟩ := hcs
      exact ⟨[], .inl ⟨rfl, rfl, rfl, rfl⟩⟩
    · simp [Value.cells] at hcs
      obtain ⟨rfl, rfl, rfl⟩ := hcs
      exact ⟨zs, .inr ⟨_, rfl, hl, hm, by simpa using hz, hcell, hwz⟩⟩
  clear hA0 hval0
  refine (walk H1 H2 H3 a0 len0 cap0 z0 W w0).mono fun e W' ⟨he, bel⟩ => ?_
  subst he
  exact ⟨_, rfl, _, _, _, [], _, [], hW', trodAll_mk1 (shut_bool Try.underlying4 _), (trodAll_cons_mk (Below.trod laidOut (by kernel_rfl) (of_decide_eq_true (by kernel_rfl)) k0 bel lt0) trodAll_mk0), rfl, bel.frame _, fun h => by cases h⟩

theorem over (H1 : FirstOk) (H2 : SecondOk) (H3 : SwapOk) : Rows.fnTopRow.holds Try.pinned (OpenSpec.ofChange Rows.fnTopSpec) :=
  OpenClaim.holds_of_wide 3 Try.f3 rfl rfl rfl rfl rfl rfl rfl ⟨rfl, rfl, rfl, rfl, rfl⟩ rfl rfl rfl rfl rfl (by kernel_rfl) Try.func3 (by kernel_rfl)
    (of_decide_eq_true (by kernel_rfl)) (by unfold Func.isWrapper; first | (rw [if_pos (by decide +kernel)]; kernel_rfl) | (rw [if_neg (by decide +kernel)]; exact ⟨rfl, rfl⟩))
    (fun os started H enc _ => lifted H1 H2 H3 os started H enc)


end fnTop

end Go.Proofs.Ytlglbinalocilaa

namespace Go.Proofs.Ytlglbinalocilaa
open Go.RowKit

set_option maxHeartbeats 1000000 in
theorem swapped_ok (t : Tb) (w : World) :
    Calls Try.prog 41 #[t.v] w fun e w' => e = .returned t.turned.v ∧ Below w.heap.size w w' := by
  unfold Tb.turned Tb.v
  obtain ⟨⟨a0, a1⟩, ⟨a2, a3⟩, ⟨a4, a5⟩, ⟨a6, a7⟩⟩ := t
  simp only [Cx.v]
  go_enter Try.func41, Try.ntmps41
  go_wp2
  refine bodyPost_ret (v := .agg #[.complex .f32 a0 a1, .complex .f32 a4 a5, .complex .f32 a2 a3, .complex .f32 a6 a7]) (by simp [results, Try.results41, go_sem]) rfl ⟨rfl, ?_⟩
  all_goals repeat first
    | exact Below.refl _ _
    | refine Below.setCell ?_ ?_ _
    | refine Below.alloc ?_ ?_ _
    | refine below_drewN ?_ _
  all_goals first | omega | (simp; done) | (simp; omega)

set_option maxHeartbeats 1000000 in
theorem row0_ok (t : Tb) (w : World) :
    Calls Try.prog 88 #[t.v, .int .i64 0] w fun e w' => e = .returned (pair t.a t.b) ∧ Below w.heap.size w w' := by
  unfold Tb.v pair
  obtain ⟨⟨a0, a1⟩, ⟨a2, a3⟩, ⟨a4, a5⟩, ⟨a6, a7⟩⟩ := t
  simp only [Cx.v]
  have hat : ∀ (b : Nat) w, (Instr.arrayAt 110 (.slice (some ⟨b, 0, none⟩) 2 2)).run Try.prog w = .ok (.pointer (some ⟨b, 0, none⟩)) w := fun _ _ => by kernel_rfl
  go_enter Try.func88, Try.ntmps88
  go_wp2
  refine bodyPost_ret (v := .agg #[.complex .f32 a0 a1, .complex .f32 a2 a3]) (by simp [results, Try.results88, go_sem]) rfl ⟨rfl, ?_⟩
  all_goals repeat first
    | exact Below.refl _ _
    | refine Below.setCell ?_ ?_ _
    | refine Below.alloc ?_ ?_ _
    | refine below_drewN ?_ _
  all_goals first | omega | (simp; done) | (simp; omega)

set_option maxHeartbeats 1000000 in
theorem row1_ok (t : Tb) (w : World) :
    Calls Try.prog 88 #[t.v, .int .i64 1] w fun e w' => e = .returned (pair t.c t.d) ∧ Below w.heap.size w w' := by
  unfold Tb.v pair
  obtain ⟨⟨a0, a1⟩, ⟨a2, a3⟩, ⟨a4, a5⟩, ⟨a6, a7⟩⟩ := t
  simp only [Cx.v]
  have hat : ∀ (b : Nat) w, (Instr.arrayAt 110 (.slice (some ⟨b, 2, none⟩) 2 2)).run Try.prog w = .ok (.pointer (some ⟨b, 2, none⟩)) w := fun _ _ => by kernel_rfl
  go_enter Try.func88, Try.ntmps88
  go_wp2
  refine bodyPost_ret (v := .agg #[.complex .f32 a4 a5, .complex .f32 a6 a7]) (by simp [results, Try.results88, go_sem]) rfl ⟨rfl, ?_⟩
  all_goals repeat first
    | exact Below.refl _ _
    | refine Below.setCell ?_ ?_ _
    | refine Below.alloc ?_ ?_ _
    | refine below_drewN ?_ _
  all_goals first | omega | (simp; done) | (simp; omega)

end Go.Proofs.Ytlglbinalocilaa

namespace Go.Proofs.Ytlglbinalocilaa
open Go.RowKit

theorem TC.drew {W : World} {B : Nat} {t : Tb} (h : TC W B t) : TC W.drew B t := h.below (Below.refl _ _).drew

theorem TC.nil (W : World) (T : TypeId) : TC (W.alloc (.cells #[.complex .f32 0 0, .complex .f32 0 0, .complex .f32 0 0, .complex .f32 0 0] T)) W.heap.size nilTb := TC.new W T nilTb

set_option maxRecDepth 100000 in
set_option maxHeartbeats 2000000 in
theorem rows_ok (t : Tb) (w : World) :
    Calls Try.prog 66 #[t.v] w fun e w' => e = .returned t.v ∧ Below w.heap.size w w' := by
  have H0 := Lib.hid (fun w => row0_ok t w)
  have H1 := Lib.hid (fun w => row1_ok t w)
  unfold Tb.v pair at *
  simp only [Cx.v] at *
  have A0 := Lib.hid (((TC.new w 45 t).alloc (.cells #[.complex .f32 0 0, .complex .f32 0 0, .complex .f32 0 0, .complex .f32 0 0] 29)).drew)
  have R0 := Lib.hid ((TC.nil (w.alloc (.cells #[.complex .f32 t.a.re t.a.im, .complex .f32 t.b.re t.b.im, .complex .f32 t.c.re t.c.im, .complex .f32 t.d.re t.d.im] 45)) 29).drew)
  have B0 := Lib.hid ((((Below.refl w.heap.size w).alloc (Nat.le_refl _) (.cells #[.complex .f32 t.a.re t.a.im, .complex .f32 t.b.re t.b.im, .complex .f32 t.c.re t.c.im, .complex .f32 t.d.re t.d.im] 45)).alloc (by simp) (.cells #[.complex .f32 0 0, .complex .f32 0 0, .complex .f32 0 0, .complex .f32 0 0] 29)).drew)
  rw [World.size_alloc] at R0
  go_enter Try.func66, Try.ntmps66
  go_wp2_with fail
  go_region_held3 (fun w' => w'.cell? ⟨w.heap.size, 0, none⟩ = some (.complex .f32 t.a.re t.a.im) ∧ w'.cell? ⟨w.heap.size, 1, none⟩ = some (.complex .f32 t.b.re t.b.im) ∧ w'.cell? ⟨w.heap.size, 2, none⟩ = some (.complex .f32 t.c.re t.c.im) ∧ w'.cell? ⟨w.heap.size, 3, none⟩ = some (.complex .f32 t.d.re t.d.im)) (go_keep)
    ((first
      | (go_at_call 88; with_reducible refine (H0.out _).mono ?_; rintro e w1 ⟨rfl, hb1⟩; have R1 := Lib.hid (R0.out.below hb1); have B1 := Lib.hid (B0.out.trans (hb1.mono B0.out.size)); have A1 := Lib.hid (A0.out.below hb1); obtain ⟨d0, d1, d2, d3, _, _, _, _, _⟩ := A1.out; clear hb1)
      | (go_at_call 88; with_reducible refine (H1.out _).mono ?_; rintro e w2 ⟨rfl, hb2⟩; have B2 := Lib.hid (B1.out.trans (hb2.mono B1.out.size)); obtain ⟨r0, r1, r2, r3, g0, g1, g2, g3, gl⟩ := R1.out.below hb2; obtain ⟨d0, d1, d2, d3, _, _, _, _, dl⟩ := A1.out.below hb2; clear hb2)))
  all_goals
    go_wp2_with fail
    refine bodyPost_ret (v := .agg #[.complex .f32 t.a.re t.a.im, .complex .f32 t.b.re t.b.im, .complex .f32 t.c.re t.c.im, .complex .f32 t.d.re t.d.im]) (by simp [results, Try.results66, go_sem, r0, r1, r2, r3, g0, g1, g2, g3, gl]) rfl ⟨rfl, ?_⟩
    repeat first
      | exact B2.out
      | refine Below.setCell ?_ ?_ _
    all_goals first | omega | (simp; done) | (simp; omega)

set_option maxHeartbeats 2000000 in
theorem isPair_ok {t : Tb} (h : TF t) (w : World) : Calls Try.prog 38 #[t.v] w fun e w' => e = .returned (.bool true) ∧ Below w.heap.size w w' := by
  have R := Lib.hid (fun w => rows_ok t w)
  have I := Lib.hid (fun w => isTable_ok h w)
  clear h
  unfold Tb.v at *
  simp only [Cx.v] at *
  go_enter Try.func38, Try.ntmps38
  go_wp2_with fail
  refine (R.out _).mono ?_
  rintro e w1 ⟨rfl, hb1⟩
  have B1 := Lib.hid (((Below.refl w.heap.size w).alloc (Nat.le_refl _) (.cells #[.complex .f32 t.a.re t.a.im, .complex .f32 t.b.re t.b.im, .complex .f32 t.c.re t.c.im, .complex .f32 t.d.re t.d.im] 45)).trans (hb1.mono (by simp)))
  clear hb1
  go_wp2_with fail
  refine (I.out _).mono ?_
  rintro e w2 ⟨rfl, hb2⟩
  have B2 := Lib.hid (B1.out.trans (hb2.mono B1.out.size))
  clear hb2
  go_wp2_with fail
  go_ret
  exact ⟨rfl, B2.out⟩

set_option maxHeartbeats 2000000 in
theorem swapPair_ok {t : Tb} (h : TF t) (w : World) : Calls Try.prog 16 #[t.v] w fun e w' => e = .returned (.tuple #[t.turned.v, .int .i64 0]) ∧ Below w.heap.size w w' := by
  have S := Lib.hid (fun w => swapped_ok t w)
  have I := Lib.hid (fun w => isPair_ok h w)
  clear h
  unfold Tb.turned Tb.v at *
  simp only [Cx.v] at *
  have A0 := Lib.hid ((TC.new w 45 t).alloc (.cells #[.complex .f32 0 0, .complex .f32 0 0, .complex .f32 0 0, .complex .f32 0 0] 45))
  have R0 := Lib.hid (TC.nil (w.alloc (.cells #[.complex .f32 t.a.re t.a.im, .complex .f32 t.b.re t.b.im, .complex .f32 t.c.re t.c.im, .complex .f32 t.d.re t.d.im] 45)) 45)
  have B0 := Lib.hid (((Below.refl w.heap.size w).alloc (Nat.le_refl _) (.cells #[.complex .f32 t.a.re t.a.im, .complex .f32 t.b.re t.b.im, .complex .f32 t.c.re t.c.im, .complex .f32 t.d.re t.d.im] 45)).alloc (by simp) (.cells #[.complex .f32 0 0, .complex .f32 0 0, .complex .f32 0 0, .complex .f32 0 0] 45))
  rw [World.size_alloc] at R0
  go_enter Try.func16, Try.ntmps16
  go_wp2_with fail
  refine (I.out _).mono ?_
  rintro e w1 ⟨rfl, hb1⟩
  have A1 := Lib.hid (A0.out.below hb1)
  have R1 := Lib.hid (R0.out.below hb1)
  have B1 := Lib.hid (B0.out.trans (hb1.mono B0.out.size))
  clear hb1
  obtain ⟨d0, d1, d2, d3, _, _, _, _, dl⟩ := A1.out
  go_wp2_with fail
  refine (S.out _).mono ?_
  rintro e w2 ⟨rfl, hb2⟩
  have B2 := Lib.hid (B1.out.trans (hb2.mono B1.out.size))
  obtain ⟨r0, r1, r2, r3, g0, g1, g2, g3, gl⟩ := R1.out.below hb2
  clear hb2
  go_wp2_with fail
  refine bodyPost_ret (v := .tuple #[.agg #[.complex .f32 t.a.re t.a.im, .complex .f32 t.c.re t.c.im, .complex .f32 t.b.re t.b.im, .complex .f32 t.d.re t.d.im], .int .i64 0]) (by simp [results, Try.results16, go_sem, r0, r1, r2, r3, g0, g1, g2, g3, gl]) rfl ⟨rfl, ?_⟩
  repeat first
    | exact B2.out
    | refine Below.setCell ?_ ?_ _
  all_goals first | omega | (simp; done) | (simp; omega)

end Go.Proofs.Ytlglbinalocilaa
