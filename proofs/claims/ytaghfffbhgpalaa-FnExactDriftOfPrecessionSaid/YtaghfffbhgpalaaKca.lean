/- DriftOfPrecession of the specification: no list. For every array of three float32, every float32 and every int64, DriftOfPrecession of the program hands back what DriftOfPrecession of the specification does: the law FnExactDriftOfPrecession returns true, and its arguments read as before. Over what the law wants of both. -/
import Derived.Test.YtaghfffbhgpalaaPa
import Derived.Test.YtaghfffbhgpalaaKbs
import Derived.ProofKit
import Derived.OpenShut
namespace Go.Proofs.Ytaghfffbhgpalaa
open Go.RowKit

set_option maxHeartbeats 2000000 in
theorem specD_lim {a b c h n : Nat} {X : Nat → Nat} (ha : Num a) (hb : Num b) (hc : Num c) (hh : Num h) (n1 : 1 ≤ n) (n2 : n ≤ 300) (H : finO (qO a b c h) = false) :
    GivesD 11 a b c h n 0 X 3 := by
  intro w
  have HV := Lib.hid (fun w => l09Is_any a b c w ha.1 hb.1 hc.1)
  have HF := Lib.hid (fun w => fine_any h w hh.1)
  rw [ha.2, hb.2, hc.2] at HV
  rw [hh.2] at HF
  simp only [Bool.and_self] at HV
  have HS : ∀ w, Calls Try.prog 23 #[.agg #[.float .f32 a, .float .f32 b, .float .f32 c], .float .f32 h] w fun e w' => e = .returned (.tuple #[noTable, .int .i64 3]) ∧ Below w.heap.size w w' := fun w => by
    have := l09Step_any ha hb hc hh w
    unfold stepIn at this
    rw [H] at this
    exact this
  unfold noTable at HS
  have HSS := Lib.hid HS
  have HI := Lib.hid (fun w => in_any (n : Int) 1 300 w)
  have hd : decide ((1 : Int) ≤ (n : Int) ∧ (n : Int) ≤ 300) = true := decide_eq_true ⟨by omega, by omega⟩
  rw [hd] at HI
  clear ha hb hc hh H hd HS
  go_enter Try.func11, Try.ntmps11
  go_wp2_with fail
  refine (HV.out _).mono ?_
  rintro e w1 ⟨rfl, hb1⟩
  have V1 := Lib.hid (show VF w1 w.heap.size a b c from VF.below ⟨by simp [go_sem], by simp [go_sem], by simp [go_sem], by simp⟩ hb1)
  have HB1 := Lib.hid (show Below w.heap.size w w1 from below_step hb1 ((Below.refl _ _).alloc (Nat.le_refl _) _) (by simp))
  clear hb1
  go_wp2_with fail
  refine (HF.out _).mono ?_
  rintro e w2 ⟨rfl, n3, rfl⟩
  go_wp2_with fail
  refine (HI.out _).mono ?_
  rintro e w2 ⟨rfl, rfl⟩
  obtain ⟨c0, c1, c2, hl⟩ := V1.out
  go_wp2_with fail
  refine (HSS.out _).mono ?_
  rintro e w3 ⟨rfl, hb3⟩
  have HB3 := Lib.hid (below_step hb3 (below_drewN HB1.out n3) (by have := HB1.out.size; simpa using this))
  clear hb3 c0 c1 c2 hl V1 HB1 HSS HV HF HI
  have HB4 := Lib.hid (HB3.out.alloc HB3.out.size (.cells #[.complex .f32 0 0, .complex .f32 0 0, .complex .f32 0 0, .complex .f32 0 0] 47))
  go_wp2_with fail
  exact bodyPost_ret (v := .tuple #[.slice none 0 0, .int .i64 3]) (by simp [results, Try.results11, go_sem]) rfl ⟨_, rfl, HB4.out, own_nilP (Nat.le_refl _)⟩

set_option maxHeartbeats 2000000 in
theorem specD_out {a b c h : Nat} {n : Int} {X : Nat → Nat} (ha : Num a) (hb : Num b) (hc : Num c) (hh : Num h) (hn : ¬ (1 ≤ n ∧ n ≤ 300)) :
    GivesD 11 a b c h n 0 X 2 := by
  intro w
  have HV := Lib.hid (fun w => l09Is_any a b c w ha.1 hb.1 hc.1)
  have HF := Lib.hid (fun w => fine_any h w hh.1)
  rw [ha.2, hb.2, hc.2] at HV
  rw [hh.2] at HF
  simp only [Bool.and_self] at HV
  have HI := Lib.hid (fun w => in_any n 1 300 w)
  have hd : decide ((1 : Int) ≤ n ∧ n ≤ 300) = false := decide_eq_false hn
  rw [hd] at HI
  clear ha hb hc hh hd hn
  go_enter Try.func11, Try.ntmps11
  go_wp2_with fail
  refine (HV.out _).mono ?_
  rintro e w1 ⟨rfl, hb1⟩
  have HB1 := Lib.hid (show Below w.heap.size w w1 from below_step hb1 ((Below.refl _ _).alloc (Nat.le_refl _) _) (by simp))
  clear hb1
  go_wp2_with fail
  refine (HF.out _).mono ?_
  rintro e w2 ⟨rfl, n3, rfl⟩
  go_wp2_with fail
  refine (HI.out _).mono ?_
  rintro e w2 ⟨rfl, rfl⟩
  go_wp2_with fail
  exact bodyPost_ret (v := .tuple #[.slice none 0 0, .int .i64 2]) (by simp [results, Try.results11, go_sem]) rfl ⟨_, rfl, below_drewN HB1.out _, own_nilP (Nat.le_refl _)⟩

set_option maxHeartbeats 2000000 in
theorem specD_no {a b c h : Nat} {n : Int} {X : Nat → Nat} (ha : a < 4294967296) (hb : b < 4294967296) (hc : c < 4294967296) (hh : h < 4294967296) (H : ((fin a && fin b && fin c) && fin h) = false) :
    GivesD 11 a b c h n 0 X 1 := by
  intro w
  have HV := Lib.hid (fun w => l09Is_any a b c w ha hb hc)
  have HF := Lib.hid (fun w => fine_any h w hh)
  generalize (fin a && fin b && fin c) = p at *
  generalize fin h = q at *
  clear ha hb hc hh
  cases p
  · clear H HF
    go_enter Try.func11, Try.ntmps11
    go_wp2_with fail
    refine (HV.out _).mono ?_
    rintro e w1 ⟨rfl, hb1⟩
    have HB1 := Lib.hid (show Below w.heap.size w w1 from below_step hb1 ((Below.refl _ _).alloc (Nat.le_refl _) _) (by simp))
    clear hb1
    go_wp2_with fail
    exact bodyPost_ret (v := .tuple #[.slice none 0 0, .int .i64 1]) (by simp [results, Try.results11, go_sem]) rfl ⟨_, rfl, HB1.out, own_nilP (Nat.le_refl _)⟩
  · obtain rfl : q = false := by simpa using H
    clear H
    go_enter Try.func11, Try.ntmps11
    go_wp2_with fail
    refine (HV.out _).mono ?_
    rintro e w1 ⟨rfl, hb1⟩
    have HB1 := Lib.hid (show Below w.heap.size w w1 from below_step hb1 ((Below.refl _ _).alloc (Nat.le_refl _) _) (by simp))
    clear hb1
    go_wp2_with fail
    refine (HF.out _).mono ?_
    rintro e w2 ⟨rfl, n3, rfl⟩
    go_wp2_with fail
    exact bodyPost_ret (v := .tuple #[.slice none 0 0, .int .i64 1]) (by simp [results, Try.results11, go_sem]) rfl ⟨_, rfl, below_drewN HB1.out _, own_nilP (Nat.le_refl _)⟩

end Go.Proofs.Ytaghfffbhgpalaa

namespace Go.Proofs.Ytaghfffbhgpalaa
open Go.ChangeShapes Go.WideShapes Go.ChangeAt Go.RowKit

/-- What the law wants of both. -/
def DriftOfPrecessionOk : Prop := ∀ (a b c h : Nat) (n : Int), a < 4294967296 → b < 4294967296 → c < 4294967296 → h < 4294967296 → (Lit.int .i64 n).wf = true →
  ∃ (m : Nat) (X : Nat → Nat) (code : Int), m ≤ 400 ∧ (∀ i, i < m → X i < 4294967296 ∧ fin (X i) = true) ∧ GivesD 11 a b c h n m X code ∧ GivesD 12 a b c h n m X code

namespace DriftOfPrecession

theorem cellsV : Try.prog.cellsOf 23 = 3 := by kernel_rfl
theorem cellsF : Try.prog.cellsOf 22 = 1 := by kernel_rfl

theorem trod_float {H : Type} {enc : TypeId × Value → H} {P : Program} {w : World} {base : Nat} {spare : Nat → Bool} {held : Bool} {fuel : Nat} {t : TypeId} {k : FloatKind} {c : Value} {y : DataW H × List MemPlace} (ht : P.underlying t = some (.float k))
    (h : DataW.trod enc P w base spare held fuel t [c] = some y) : ∃ b, c = .float k b ∧ y = (.lit (.float k b), []) ∧ (Lit.float k b).wf = true := by
  cases fuel with
  | zero => simp [DataW.trod] at h
  | succ n =>
    unfold DataW.trod at h
    rw [ht] at h
    cases c <;> simp at h
    obtain ⟨⟨rfl, hw⟩, rfl⟩ := h
    exact ⟨_, rfl, rfl, hw⟩

theorem list3 {α : Type} (l : List α) (h : (⟨l⟩ : Array α).size = 3) : ∃ a b c, l = [a, b, c] := by
  match l, h with
  | [a, b, c], _ => exact ⟨a, b, c, rfl⟩

set_option maxRecDepth 100000 in
/-- An array of three float32 by value, opened. -/
theorem open_vec {H : Type} {enc : TypeId × Value → H} {w : World} {b0 : Nat} {base : Nat} {spare : Nat → Bool} {held : Bool} {v : Value} {d : DataW H} {ps : List MemPlace}
    (hv : Value.okWide Try.prog w .any b0 23 v) (hd : DataW.Trod enc Try.prog w base spare held 23 v d ps) :
    ∃ a b c : Nat, v = .agg #[.float .f32 a, .float .f32 b, .float .f32 c] ∧ d = .agg [.lit (.float .f32 a), .lit (.float .f32 b), .lit (.float .f32 c)] ∧ ps = [] ∧ (Lit.float .f32 a).wf = true ∧ (Lit.float .f32 b).wf = true ∧ (Lit.float .f32 c).wf = true := by
  obtain ⟨cs, rfl, hsz, _⟩ : ∃ cs, v = .agg cs ∧ cs.size = Try.prog.cellsOf 23 ∧ Row.okWide Try.prog w .any b0 23 cs := by
    simpa [Value.okWide, Try.underlying23] using hv
  rw [cellsV] at hsz
  obtain ⟨l⟩ := cs
  obtain ⟨c0, c1, c2, rfl⟩ := list3 l hsz
  obtain ⟨fuel, hf⟩ := hd
  obtain ⟨y0, y1, y2, m, hx, hy0, hy1, hy2⟩ := trod_array3 Try.underlying23 cellsF hf
  obtain ⟨a, rfl, rfl, wa⟩ := trod_float Try.underlying22 hy0
  obtain ⟨b, rfl, rfl, wb⟩ := trod_float Try.underlying22 hy1
  obtain ⟨c, rfl, rfl, wc⟩ := trod_float Try.underlying22 hy2
  simp only [Prod.mk.injEq] at hx
  exact ⟨a, b, c, rfl, hx.1, hx.2, wa, wb, wc⟩

theorem shut_vec {H : Type} {enc : TypeId × Value → H} {w : World} {base : Nat} {spare : Nat → Bool} {held : Bool} {a b c : Nat} (wa : (Lit.float .f32 a).wf = true) (wb : (Lit.float .f32 b).wf = true) (wc : (Lit.float .f32 c).wf = true) :
    DataW.Trod enc Try.prog w base spare held 23 (.agg #[.float .f32 a, .float .f32 b, .float .f32 c]) (.agg [.lit (.float .f32 a), .lit (.float .f32 b), .lit (.float .f32 c)]) [] :=
  ⟨2, by simp [DataW.trod, Value.cells, Try.underlying23, Try.underlying22, cellsV, cellsF, wa, wb, wc, show List.range 3 = [0, 1, 2] from rfl]⟩

theorem own : ownKnob Try.prog.godebug = none := by kernel_rfl

set_option maxRecDepth 100000 in
theorem lifted (HB : DriftOfPrecessionOk) (os : Os) (started : os.Started) (H : Type) (enc : TypeId × Value → H) :
    ReturnsInHanded {} Try.checked os 4 .any (Rows.fnExactDriftOfPrecessionSpec.pre6 enc Try.prog Try.f4 Rows.fnExactDriftOfPrecessionRow.domain false) (Rows.fnExactDriftOfPrecessionSpec.post enc Try.prog Try.f4 false true false false) := by
  refine returnsInHanded_of_change (C := Try.checked) own started (by kernel_rfl) Try.func4
    (ChangeSpec.witness6 (enc := enc) (C := Try.checked) false ⟨#[], #[.agg #[.float .f32 0, .float .f32 0, .float .f32 0], .float .f32 0, .int .i64 0], []⟩ 8 (by kernel_rfl) (by kernel_rfl) (by kernel_rfl) (by kernel_rfl)) ?_
  intro W base args ds gs before hval0 hW hcnd _
  have hval : ∀ (j : Nat) t v, Try.f4.params[j]? = some t → args[j]? = some v → Value.okWide Try.prog W .any base t v := hval0
  have hW' := hW
  obtain ⟨p, q, hA0, hV, rfl, hfz, hnd⟩ := hW
  have hA : DataW.TrodAll enc Try.prog W 0 (fun _ => true) true Try.f4.params.toList args.toList ds p := hA0
  rw [Try.params4] at hA hval
  obtain ⟨v0, v1, v2, d0, d1, d2, p0, p1, p2, rfl, rfl, rfl, h0, h1, h2⟩ := trodAll_three hA
  obtain ⟨rfl, rfl⟩ := trodVars_none hV
  obtain ⟨a, b, c, rfl, rfl, rfl, wa, wb, wc⟩ := open_vec (hval 0 23 v0 rfl rfl) h0
  obtain ⟨h, rfl, rfl, rfl, wh⟩ := open_float Try.underlying22 (hval 1 22 v1 rfl rfl) h1
  obtain ⟨n, rfl, rfl, rfl, wn⟩ := open_int Try.underlying2 (hval 2 2 v2 rfl rfl) h2
  clear hA0 hval0
  simp only [List.append_nil] at hW'
  obtain ⟨m, X, code, hm, hX, SP, IM⟩ := HB a b c h n (by simpa [Lit.wf] using wa) (by simpa [Lit.wf] using wb) (by simpa [Lit.wf] using wc) (by simpa [Lit.wf] using wh) wn
  refine (law_drift hm hX SP IM W).mono fun e W' ⟨he, hb⟩ => ?_
  subst he
  exact ⟨_, rfl, _, _, _, [], _, [], hW', trodAll_mk1 (shut_bool Try.underlying4 _), trodAll_mk3 (shut_vec wa wb wc) (shut_float Try.underlying22 wh) (shut_int Try.underlying2 wn), rfl, hb.frame _, fun h => by cases h⟩

theorem holds (HB : DriftOfPrecessionOk) : Rows.FnExactDriftOfPrecessionSaid :=
  OpenClaim.holds_of_wide 4 Try.f4 rfl rfl rfl rfl rfl rfl rfl ⟨rfl, rfl, rfl, rfl, rfl⟩ rfl rfl rfl rfl rfl (by kernel_rfl) Try.func4 (by kernel_rfl)
    (of_decide_eq_true (by kernel_rfl)) (by unfold Func.isWrapper; first | (rw [if_pos (by decide +kernel)]; kernel_rfl) | (rw [if_neg (by decide +kernel)]; exact ⟨rfl, rfl⟩))
    (fun os started H enc _ => lifted HB os started H enc)


end DriftOfPrecession

end Go.Proofs.Ytaghfffbhgpalaa
