/- For every two arrays of three float32, CrossOfVectors of the program hands back what CrossOfVectors of the specification does, the signs of zeros too: the law FnExactCrossOfVectors returns true, and its arguments read as before. Over what the law wants of the program. -/
import Derived.Test.YtlmhibeimfkpiaaCr2
import Derived.ProofKit
import Derived.OpenShut
namespace Go.Proofs.Ytlmhibeimfkpiaa
open Go.ChangeShapes Go.WideShapes Go.ChangeAt Go.RowKit

/-- What the law wants of the program. -/
def CrossOk : Prop := ∀ (a b c a' b' c' : Nat) (w : World), a < 4294967296 → b < 4294967296 → c < 4294967296 → a' < 4294967296 → b' < 4294967296 → c' < 4294967296 →
  Calls Try.prog 12 #[.agg #[.float .f32 a, .float .f32 b, .float .f32 c], .agg #[.float .f32 a', .float .f32 b', .float .f32 c']] w fun e w' => e = .returned (crossRes a b c a' b' c') ∧ Below w.heap.size w w'

theorem crossRes_ok (a b c a' b' c' : Nat) : ∃ (x y z : Nat) (j : Int), crossRes a b c a' b' c' = .tuple #[.agg #[.float .f32 x, .float .f32 y, .float .f32 z], .int .i64 j] ∧ VecOk x y z := by
  have no : VecOk 0 0 0 := ⟨by omega, by omega, by omega, by decide +kernel, by decide +kernel, by decide +kernel⟩
  unfold crossRes
  split
  · unfold vecO
    split
    · rename_i h
      simp only [Bool.and_eq_true] at h
      obtain ⟨l0, f0⟩ := finO_lt h.1.1
      obtain ⟨l1, f1⟩ := finO_lt h.1.2
      obtain ⟨l2, f2⟩ := finO_lt h.2
      exact ⟨_, _, _, _, rfl, l0, l1, l2, f0, f1, f2⟩
    · exact ⟨0, 0, 0, 3, rfl, no⟩
  · exact ⟨0, 0, 0, 1, rfl, no⟩

set_option maxRecDepth 100000 in
set_option maxHeartbeats 1000000 in
theorem law_cross (H : CrossOk) (a b c a' b' c' : Nat) (w : World) (ha : a < 4294967296) (hb : b < 4294967296) (hc : c < 4294967296) (ha' : a' < 4294967296) (hb' : b' < 4294967296) (hc' : c' < 4294967296) :
    Calls Try.prog 3 #[.agg #[.float .f32 a, .float .f32 b, .float .f32 c], .agg #[.float .f32 a', .float .f32 b', .float .f32 c']] w fun e w' => e = .returned (.bool true) ∧ Below w.heap.size w w' := by
  have HI := Lib.hid (fun w => H a b c a' b' c' w ha hb hc ha' hb' hc')
  have HS := Lib.hid (fun w => specCross a b c a' b' c' w ha hb hc ha' hb' hc')
  obtain ⟨x, y, z, j, hres, hok⟩ := crossRes_ok a b c a' b' c'
  rw [hres] at HI HS
  have HOk := Lib.hid hok
  clear H hres hok ha hb hc ha' hb' hc'
  have e0 : w.heap.size < w.heap.size + 1 + 1 := by omega
  have e1 : w.heap.size < w.heap.size + 1 + 1 + 1 := by omega
  have e3 : w.heap.size + 1 + 1 ≠ w.heap.size := by omega
  have e4 : w.heap.size + 1 + 1 ≠ w.heap.size + 1 := by omega
  have e2 : w.heap.size + 1 < w.heap.size + 1 + 1 + 1 := by omega
  go_enter Try.func3, Try.ntmps3
  go_upto_region 1 with fail
  go_cut [5, 6] (fun s5 s6 wx => Told w a b c a' b' c' x y z j s5 s6 wx)
  case first =>
    go_region_held3 (fun w' => w'.cell? ⟨w.heap.size, 0, none⟩ = some (.float .f32 a) ∧ w'.cell? ⟨w.heap.size, 1, none⟩ = some (.float .f32 b) ∧ w'.cell? ⟨w.heap.size, 2, none⟩ = some (.float .f32 c) ∧ w'.cell? ⟨w.heap.size + 1, 0, none⟩ = some (.float .f32 a') ∧ w'.cell? ⟨w.heap.size + 1, 1, none⟩ = some (.float .f32 b') ∧ w'.cell? ⟨w.heap.size + 1, 2, none⟩ = some (.float .f32 c')) (go_keep)
      (first | (go_at_call 10; refine (HS.out _).mono ?_; rintro e w' ⟨rfl, hb⟩; obtain ⟨hc, hf, hz0, hz1, hy0, hn0, hn1, hs, k0, k1, k2, k3, k4, k5⟩ := bcells6 hb w.heap.size (by first | omega | (simp; done) | (simp; omega)); try (have hz2 := hs (w.heap.size + 1 + 1) (by first | assumption | (simp; done) | (simp; omega)))) | (go_at_call 11; refine (toVector_any _ _ _ _).mono ?_; rintro e w' ⟨rfl, hb⟩; obtain ⟨hc, hf, hz0, hz1, hy0, hn0, hn1, hs, k0, k1, k2, k3, k4, k5⟩ := bcells6 hb w.heap.size (by first | omega | (simp; done) | (simp; omega)); try (have hz2 := hs (w.heap.size + 1 + 1) (by first | assumption | (simp; done) | (simp; omega)))))
    all_goals
      go_wp2_with fail
      go_meet
      refine ⟨_, rfl, rfl, ?_, ?_, ?_, ?_, ?_, ?_, ?_, ?_, ?_, ?_, ?_, ?_⟩
      all_goals first
        | (simp [*]; done)
        | (simp; omega)
        | exact (set3 (by simp [*, go_sem]) (by simp [*, go_sem]) (by simp [*, go_sem])).1
        | exact (set3 (by simp [*, go_sem]) (by simp [*, go_sem]) (by simp [*, go_sem])).2.1
        | exact (set3 (by simp [*, go_sem]) (by simp [*, go_sem]) (by simp [*, go_sem])).2.2
        | skip
      all_goals repeat first
        | exact Below.refl _ _
        | refine Below.setCell ?_ ?_ _
        | refine Below.alloc ?_ ?_ _
        | refine below_drewN ?_ _
        | refine Below.drew ?_
        | refine below_step (by assumption) ?_ ?_
      all_goals first | omega | (simp; done) | (simp; omega) | skip
  case rest =>
    obtain ⟨g, rfl, rfl, hg1, hg2, t0, t1, t2, c0, c1, c2, c3, c4, c5, hB⟩ := hcut
    have d0 : wc.heap.size ≠ w.heap.size := by omega
    have d1 : wc.heap.size ≠ w.heap.size + 1 := by omega
    have d2 : wc.heap.size ≠ g := by omega
    have d3 : w.heap.size < wc.heap.size := by omega
    have d4 : w.heap.size + 1 < wc.heap.size := by omega
    have d5 : w.heap.size ≤ wc.heap.size := by omega
    clear e0 e1 e2 e3 e4
    go_upto_region 2 with fail
    go_cut [7, 8] (fun s7 s8 wx => Told2 w g x y z j s7 s8 wx)
    case first =>
      go_region_held3 (fun w' => w'.cell? ⟨w.heap.size, 0, none⟩ = some (.float .f32 a) ∧ w'.cell? ⟨w.heap.size, 1, none⟩ = some (.float .f32 b) ∧ w'.cell? ⟨w.heap.size, 2, none⟩ = some (.float .f32 c) ∧ w'.cell? ⟨w.heap.size + 1, 0, none⟩ = some (.float .f32 a') ∧ w'.cell? ⟨w.heap.size + 1, 1, none⟩ = some (.float .f32 b') ∧ w'.cell? ⟨w.heap.size + 1, 2, none⟩ = some (.float .f32 c')) (go_keep)
        (first | (go_at_call 12; refine (HI.out _).mono ?_; rintro e w' ⟨rfl, hb⟩; obtain ⟨hc, hf, hz0, hz1, hy0, hn0, hn1, hs, k0, k1, k2, k3, k4, k5, q0, q1, q2, q3, q4, q5⟩ := bcells9 hb w.heap.size g (by first | omega | (simp; done) | (simp; omega)) (by first | omega | (simp; done) | (simp; omega)); try (have hz2 := hs wc.heap.size (by first | assumption | (simp; done) | (simp; omega)))) | (go_at_call 11; refine (toVector_any _ _ _ _).mono ?_; rintro e w' ⟨rfl, hb⟩; obtain ⟨hc, hf, hz0, hz1, hy0, hn0, hn1, hs, k0, k1, k2, k3, k4, k5, q0, q1, q2, q3, q4, q5⟩ := bcells9 hb w.heap.size g (by first | omega | (simp; done) | (simp; omega)) (by first | omega | (simp; done) | (simp; omega)); try (have hz2 := hs wc.heap.size (by first | assumption | (simp; done) | (simp; omega)))))
      all_goals
        go_wp2_with fail
        go_meet
        refine ⟨_, rfl, rfl, ?_, ?_, ?_, ?_, ?_, ?_, ?_⟩
        all_goals first
          | (go_keep; done)
          | exact (set3 (by simp [*, go_sem]) (by simp [*, go_sem]) (by simp [*, go_sem])).1
          | exact (set3 (by simp [*, go_sem]) (by simp [*, go_sem]) (by simp [*, go_sem])).2.1
          | exact (set3 (by simp [*, go_sem]) (by simp [*, go_sem]) (by simp [*, go_sem])).2.2
          | skip
        all_goals repeat first
          | assumption
          | exact Below.refl _ _
          | refine Below.setCell ?_ ?_ _
          | refine Below.alloc ?_ ?_ _
          | refine below_step (by assumption) ?_ ?_
          | exact Below.drew hB
          | exact Below.drew (Below.alloc hB (by omega) _)
        all_goals first | omega | (simp; done) | (simp; omega) | skip
    case rest =>
      obtain ⟨g', rfl, rfl, r0, r1, r2, u0, u1, u2, hB'⟩ := hcut
      clear c0 c1 c2 c3 c4 c5 t0 t1 t2 d0 d1 d2 d3 d4 d5
      have HE := Lib.hid (fun w => eqVector_any x y z w HOk.out.1 HOk.out.2.1 HOk.out.2.2.1 HOk.out.2.2.2.1 HOk.out.2.2.2.2.1 HOk.out.2.2.2.2.2)
      go_wp2_with fail
      refine (HE.out _).mono ?_
      rintro e w' ⟨rfl, hb⟩
      go_wp2_with fail
      go_ret
      exact ⟨rfl, below_step hb hB' hB'.size⟩

namespace CrossOfVectors

theorem cellsV : Try.prog.cellsOf 23 = 3 := by kernel_rfl
theorem cellsF : Try.prog.cellsOf 22 = 1 := by kernel_rfl

theorem trod_float {H : Type} {enc : TypeId × Value → H} {P : Program} {w : World} {base : Nat} {spare : Nat → Bool} {held : Bool} {fuel : Nat} {t : TypeId} {k : FloatKind} {c : Value} {y : DataW H × List MemPlace} (ht : P.underlying t = some (.float k))
    (h : DataW.trod enc P w base spare held fuel t [c] = some y) : ∃ b, c = .float k b ∧ y = (.lit (.float k b), []) ∧ (Lit.float k b).wf = true := by
  cases fuel with
  | zero => simp [DataW.trod] at h
  | succ n =>
    unfold DataW.trod at h
    rw [ht] at h
    cases c <;> simp at h
    obtain ⟨⟨rfl, hw⟩, rfl⟩ := h
    exact ⟨_, rfl, rfl, hw⟩

theorem list3 {α : Type} (l : List α) (h : (⟨l⟩ : Array α).size = 3) : ∃ a b c, l = [a, b, c] := by
  match l, h with
  | [a, b, c], _ => exact ⟨a, b, c, rfl⟩

set_option maxRecDepth 100000 in
/-- An array of three float32 by value, opened. -/
theorem open_vec {H : Type} {enc : TypeId × Value → H} {w : World} {b0 : Nat} {base : Nat} {spare : Nat → Bool} {held : Bool} {v : Value} {d : DataW H} {ps : List MemPlace}
    (hv : Value.okWide Try.prog w .any b0 23 v) (hd : DataW.Trod enc Try.prog w base spare held 23 v d ps) :
    ∃ a b c : Nat, v = .agg #[.float .f32 a, .float .f32 b, .float .f32 c] ∧ d = .agg [.lit (.float .f32 a), .lit (.float .f32 b), .lit (.float .f32 c)] ∧ ps = [] ∧ (Lit.float .f32 a).wf = true ∧ (Lit.float .f32 b).wf = true ∧ (Lit.float .f32 c).wf = true := by
  obtain ⟨cs, rfl, hsz, _⟩ : ∃ cs, v = .agg cs ∧ cs.size = Try.prog.cellsOf 23 ∧ Row.okWide Try.prog w .any b0 23 cs := by
    simpa [Value.okWide, Try.underlying23] using hv
  rw [cellsV] at hsz
  obtain ⟨l⟩ := cs
  obtain ⟨c0, c1, c2, rfl⟩ := list3 l hsz
  obtain ⟨fuel, hf⟩ := hd
  obtain ⟨y0, y1, y2, m, hx, hy0, hy1, hy2⟩ := trod_array3 Try.underlying23 cellsF hf
  obtain ⟨a, rfl, rfl, wa⟩ := trod_float Try.underlying22 hy0
  obtain ⟨b, rfl, rfl, wb⟩ := trod_float Try.underlying22 hy1
  obtain ⟨c, rfl, rfl, wc⟩ := trod_float Try.underlying22 hy2
  simp only [Prod.mk.injEq] at hx
  exact ⟨a, b, c, rfl, hx.1, hx.2, wa, wb, wc⟩

theorem shut_vec {H : Type} {enc : TypeId × Value → H} {w : World} {base : Nat} {spare : Nat → Bool} {held : Bool} {a b c : Nat} (wa : (Lit.float .f32 a).wf = true) (wb : (Lit.float .f32 b).wf = true) (wc : (Lit.float .f32 c).wf = true) :
    DataW.Trod enc Try.prog w base spare held 23 (.agg #[.float .f32 a, .float .f32 b, .float .f32 c]) (.agg [.lit (.float .f32 a), .lit (.float .f32 b), .lit (.float .f32 c)]) [] :=
  ⟨2, by simp [DataW.trod, Value.cells, Try.underlying23, Try.underlying22, cellsV, cellsF, wa, wb, wc, show List.range 3 = [0, 1, 2] from rfl]⟩

theorem own : ownKnob Try.prog.godebug = none := by kernel_rfl

set_option maxRecDepth 100000 in
theorem lifted (HB : CrossOk) (os : Os) (started : os.Started) (H : Type) (enc : TypeId × Value → H) :
    ReturnsInHanded {} Try.checked os 3 .any (Rows.fnExactCrossOfVectorsSpec.pre6 enc Try.prog Try.f3 Rows.fnExactCrossOfVectorsRow.domain false) (Rows.fnExactCrossOfVectorsSpec.post enc Try.prog Try.f3 false true false false) := by
  refine returnsInHanded_of_change (C := Try.checked) own started (by kernel_rfl) Try.func3
    (ChangeSpec.witness6 (enc := enc) (C := Try.checked) false ⟨#[], #[.agg #[.float .f32 0, .float .f32 0, .float .f32 0], .agg #[.float .f32 0, .float .f32 0, .float .f32 0]], []⟩ 8 (by kernel_rfl) (by kernel_rfl) (by kernel_rfl) (by kernel_rfl)) ?_
  intro W base args ds gs before hval0 hW hcnd _
  have hval : ∀ (j : Nat) t v, Try.f3.params[j]? = some t → args[j]? = some v → Value.okWide Try.prog W .any base t v := hval0
  have hW' := hW
  obtain ⟨p, q, hA0, hV, rfl, hfz, hnd⟩ := hW
  have hA : DataW.TrodAll enc Try.prog W 0 (fun _ => true) true Try.f3.params.toList args.toList ds p := hA0
  rw [Try.params3] at hA hval
  obtain ⟨v0, v1, d0, d1, p0, p1, rfl, rfl, rfl, h0, h1⟩ := trodAll_two hA
  obtain ⟨rfl, rfl⟩ := trodVars_none hV
  obtain ⟨a, b, c, rfl, rfl, rfl, wa, wb, wc⟩ := open_vec (hval 0 23 v0 rfl rfl) h0
  obtain ⟨a', b', c', rfl, rfl, rfl, wa', wb', wc'⟩ := open_vec (hval 1 23 v1 rfl rfl) h1
  clear hA0 hval0
  simp only [List.append_nil] at hW'
  refine (law_cross HB a b c a' b' c' W (by simpa [Lit.wf] using wa) (by simpa [Lit.wf] using wb) (by simpa [Lit.wf] using wc) (by simpa [Lit.wf] using wa') (by simpa [Lit.wf] using wb') (by simpa [Lit.wf] using wc')).mono fun e W' ⟨he, hb⟩ => ?_
  subst he
  exact ⟨_, rfl, _, _, _, [], _, [], hW', trodAll_mk1 (shut_bool Try.underlying4 _), trodAll_mk2 (shut_vec wa wb wc) (shut_vec wa' wb' wc'), rfl, hb.frame _, fun h => by cases h⟩

theorem holds (HB : CrossOk) : Rows.FnExactCrossOfVectorsSaid :=
  OpenClaim.holds_of_wide 3 Try.f3 rfl rfl rfl rfl rfl rfl rfl ⟨rfl, rfl, rfl, rfl, rfl⟩ rfl rfl rfl rfl rfl (by kernel_rfl) Try.func3 (by kernel_rfl)
    (of_decide_eq_true (by kernel_rfl)) (by unfold Func.isWrapper; first | (rw [if_pos (by decide +kernel)]; kernel_rfl) | (rw [if_neg (by decide +kernel)]; exact ⟨rfl, rfl⟩))
    (fun os started H enc _ => lifted HB os started H enc)


end CrossOfVectors

end Go.Proofs.Ytlmhibeimfkpiaa
