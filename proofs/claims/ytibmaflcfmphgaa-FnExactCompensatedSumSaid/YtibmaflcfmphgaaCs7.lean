/- CompensatedSum of the landed program (4a087cf): it goes on behind what is no number, and refuses at the end. -/
import Derived.Test.YtibmaflcfmphgaaCs5
import Derived.Test.YtibmaflcfmphgaaNl
namespace Go.Proofs.Ytibmaflcfmphgaa
open Go.RowKit

theorem run_frombits32s (b : Nat) (w : World) : (callFunc 17 #[.int .u32 b]).run Try.prog w = .ok (.value (.float .f32 b)) w := by
  rw [run_callFunc_extern (e := Extern.MathFloatBits.float32frombits) Try.func17 (by kernel_rfl) (by kernel_rfl) (by kernel_rfl) (by kernel_rfl)]
  rfl

theorem sizeOf_words (x : Nat) (w : World) (hx : x < 4294967296) : Calls Try.prog 12 #[.float .f32 x] w fun e w' => e = .returned (.float .f32 (mag x)) ∧ w = w' := by
  have B := Lib.hid (fun w => bits_any x w hx)
  have hm := mag_lt x
  have hr := run_frombits32s (mag x)
  generalize mag x = m at *
  clear hx
  go_enter Try.func12, Try.ntmps12
  go_wp2_with fail
  refine (B.out _).mono ?_
  rintro e w' ⟨rfl, rfl⟩
  go_wp2
  go_ret
  exact ⟨rfl, rfl⟩

/-- No number. -/
def Bad (x : Nat) : Prop := x < 4294967296 ∧ fin x = false

theorem inf_bad {s : Bool} : Bad (Ieee.single.write (.infinity s)) := by
  cases s
  · exact ⟨by decide +kernel, by decide +kernel⟩
  · exact ⟨by decide +kernel, by decide +kernel⟩

theorem opO_bad {op : BinOp} (hop : op = .add ∨ op = .sub ∨ op = .mul ∨ op = .quo) {o p : Option Nat} {b : Nat} (h : Fw (opO op o p) b) (hv : ∀ v, opO op o p = some v → fin v = false) : Bad b := by
  refine ⟨h.1, ?_⟩
  rw [fw_fin h]
  cases hq : opO op o p with
  | none => rfl
  | some v => exact hv v hq

theorem add_badL {x y v : Nat} (hx : Bad x) (hy : y < 4294967296) (h : floatBits .add .f32 x y = some v) : fin v = false := by
  obtain ⟨s, hr | ⟨t, hr⟩⟩ := big_read x hx.1 hx.2
  · have e1 : Ieee.single.add x y = some v := h
    unfold Ieee.Format.add at e1
    rw [hr] at e1
    cases hy' : Ieee.single.read y with
    | nan a b => rw [hy'] at e1; cases e1
    | infinity a =>
      rw [hy'] at e1
      cases s <;> cases a
      · injection e1 with e1; subst e1; exact inf_bad.2
      · cases e1
      · cases e1
      · injection e1 with e1; subst e1; exact inf_bad.2
    | number a m e =>
      rw [hy'] at e1
      injection e1 with e1; subst e1; exact inf_bad.2
  · have := nan_left (op := .add) (y := y) (.inl rfl) ⟨s, t, hr⟩
    rw [this] at h
    cases h

theorem add_badR {x y v : Nat} (hy : Bad y) (hx : x < 4294967296) (h : floatBits .add .f32 x y = some v) : fin v = false := by
  obtain ⟨s, hr | ⟨t, hr⟩⟩ := big_read y hy.1 hy.2
  · have e1 : Ieee.single.add x y = some v := h
    unfold Ieee.Format.add at e1
    rw [hr] at e1
    cases hx' : Ieee.single.read x with
    | nan a b => rw [hx'] at e1; cases e1
    | infinity a =>
      rw [hx'] at e1
      cases s <;> cases a
      · injection e1 with e1; subst e1; exact inf_bad.2
      · cases e1
      · cases e1
      · injection e1 with e1; subst e1; exact inf_bad.2
    | number a m e =>
      rw [hx'] at e1
      injection e1 with e1; subst e1; exact inf_bad.2
  · have := nan_right (op := .add) (x := x) (.inl rfl) ⟨s, t, hr⟩
    rw [this] at h
    cases h

theorem add_bad (t : TypeId) {x y : Nat} (hx : x < 4294967296) (hy : y < 4294967296) (hb : fin x = false ∨ fin y = false) :
    ∃ (b : World → Nat) (n : World → Nat), ∀ w, (binOp .add t (.float .f32 x) (.float .f32 y)).run Try.prog w = .ok (.float .f32 (b w)) (w.drewN (n w)) ∧ Bad (b w) := by
  have H : ∀ w, ∃ p : Nat × Nat, (binOp .add t (.float .f32 x) (.float .f32 y)).run Try.prog w = .ok (.float .f32 p.1) (w.drewN p.2) ∧ Bad p.1 := by
    intro w
    obtain ⟨b, n, h1, h2⟩ := op_run (P := Try.prog) w .add t (.inl rfl) (fw_some hx) (fw_some hy)
    refine ⟨(b, n), h1, opO_bad (.inl rfl) h2 fun v hv => ?_⟩
    rcases hb with hb | hb
    · exact add_badL ⟨hx, hb⟩ hy hv
    · exact add_badR ⟨hy, hb⟩ hx hv
  exact ⟨fun w => (Classical.choose (H w)).1, fun w => (Classical.choose (H w)).2, fun w => Classical.choose_spec (H w)⟩

theorem any_op (op : BinOp) (hop : op = .add ∨ op = .sub ∨ op = .mul ∨ op = .quo) (t : TypeId) {x y : Nat} (hx : x < 4294967296) (hy : y < 4294967296) :
    ∃ (b : World → Nat) (n : World → Nat), ∀ w, (binOp op t (.float .f32 x) (.float .f32 y)).run Try.prog w = .ok (.float .f32 (b w)) (w.drewN (n w)) ∧ b w < 4294967296 := by
  have H : ∀ w, ∃ p : Nat × Nat, (binOp op t (.float .f32 x) (.float .f32 y)).run Try.prog w = .ok (.float .f32 p.1) (w.drewN p.2) ∧ p.1 < 4294967296 := by
    intro w
    obtain ⟨b, n, h1, h2⟩ := op_run (P := Try.prog) w op t hop (fw_some hx) (fw_some hy)
    exact ⟨(b, n), h1, h2.1⟩
  exact ⟨fun w => (Classical.choose (H w)).1, fun w => (Classical.choose (H w)).2, fun w => Classical.choose_spec (H w)⟩

theorem any_ops {I : Type} (op : BinOp) (hop : op = .add ∨ op = .sub ∨ op = .mul ∨ op = .quo) (t : TypeId) (f g : I → Nat) (hf : ∀ i, f i < 4294967296) (hg : ∀ i, g i < 4294967296) :
    ∃ (b : I → World → Nat) (n : I → World → Nat), ∀ i w, (binOp op t (.float .f32 (f i)) (.float .f32 (g i))).run Try.prog w = .ok (.float .f32 (b i w)) (w.drewN (n i w)) ∧ b i w < 4294967296 := by
  have H := fun i => any_op op hop t (hf i) (hg i)
  exact ⟨fun i => Classical.choose (H i), fun i => Classical.choose (Classical.choose_spec (H i)), fun i => Classical.choose_spec (Classical.choose_spec (H i))⟩

theorem add_bads {I : Type} (t : TypeId) {x : Nat} (hx : Bad x) (g : I → Nat) (hg : ∀ i, g i < 4294967296) :
    ∃ (b : I → World → Nat) (n : I → World → Nat), ∀ i w, (binOp .add t (.float .f32 x) (.float .f32 (g i))).run Try.prog w = .ok (.float .f32 (b i w)) (w.drewN (n i w)) ∧ Bad (b i w) := by
  have H := fun i => add_bad t hx.1 (hg i) (.inl hx.2)
  exact ⟨fun i => Classical.choose (H i), fun i => Classical.choose (Classical.choose_spec (H i)), fun i => Classical.choose_spec (Classical.choose_spec (H i))⟩

/-- What a step makes of no number in the rest: none. -/
theorem bad_step (t : TypeId) {r x y z : Nat} (hr : Bad r) (hx : x < 4294967296) (hy : y < 4294967296) (hz : z < 4294967296) :
    ∃ (b2 n2 : World → Nat) (b3 n3 : World → World → Nat) (b6 n6 : World → World → World → Nat),
      (∀ w, (binOp .sub t (.float .f32 x) (.float .f32 y)).run Try.prog w = .ok (.float .f32 (b2 w)) (w.drewN (n2 w))) ∧
      (∀ v w, (binOp .add t (.float .f32 (b2 v)) (.float .f32 z)).run Try.prog w = .ok (.float .f32 (b3 v w)) (w.drewN (n3 v w))) ∧
      (∀ u v w, (binOp .add t (.float .f32 r) (.float .f32 (b3 u v))).run Try.prog w = .ok (.float .f32 (b6 u v w)) (w.drewN (n6 u v w))) ∧
      (∀ u v w, Bad (b6 u v w)) := by
  obtain ⟨b2, n2, h2⟩ := any_op .sub (.inr (.inl rfl)) t hx hy
  obtain ⟨b3, n3, h3⟩ := any_ops .add (.inl rfl) t b2 (fun _ => z) (fun w => (h2 w).2) (fun _ => hz)
  obtain ⟨b6, n6, h6⟩ := add_bads t hr (fun i : World × World => b3 i.1 i.2) (fun i => (h3 _ _).2)
  exact ⟨b2, n2, b3, n3, fun u v w => b6 (u, v) w, fun u v w => n6 (u, v) w, fun w => (h2 w).1, fun v w => (h3 v w).1, fun u v w => (h6 (u, v) w).1, fun u v w => (h6 (u, v) w).2⟩

theorem sub_badR {x y v : Nat} (hy : Bad y) (hx : x < 4294967296) (h : floatBits .sub .f32 x y = some v) : fin v = false := by
  obtain ⟨s, hr | ⟨t, hr⟩⟩ := big_read y hy.1 hy.2
  · have e1 : Ieee.single.sub x y = some v := h
    unfold Ieee.Format.sub at e1
    rw [hr] at e1
    cases hx' : Ieee.single.read x with
    | nan a b => rw [hx'] at e1; cases e1
    | infinity a =>
      rw [hx'] at e1
      cases s <;> cases a
      · cases e1
      · injection e1 with e1; subst e1; exact inf_bad.2
      · injection e1 with e1; subst e1; exact inf_bad.2
      · cases e1
    | number a m e =>
      rw [hx'] at e1
      injection e1 with e1; subst e1; exact inf_bad.2
  · have := nan_right (op := .sub) (x := x) (.inr (.inl rfl)) ⟨s, t, hr⟩
    rw [this] at h
    cases h

/-- A step that leaves the numbers leaves no number in the rest. -/
theorem csR_bad {s r x : Nat} (hs : Nu s) (hr : Nu r) (hx : Nu x) (h : (fin (csT s x) && fin (csR s r x)) = false) : fin (csR s r x) = false := by
  obtain ⟨q1, q2, q3, q4, q5, q6, q7, q8⟩ := cstep_of hs hr hx
  cases ht : fin (csT s x)
  · have hL : csL s x < 4294967296 ∧ fin (csL s x) = false := by
      unfold csL
      split
      · exact ⟨sm_lt _ _, add_badL ⟨floatBits_lt q2, sub_badR ⟨q7.1, ht⟩ hs.1 q2⟩ hx.1 q3⟩
      · exact ⟨sm_lt _ _, add_badL ⟨floatBits_lt q4, sub_badR ⟨q7.1, ht⟩ hx.1 q4⟩ hs.1 q5⟩
    exact add_badR ⟨hL.1, hL.2⟩ hr.1 q6
  · rw [ht] at h
    simpa using h

set_option maxRecDepth 100000 in
set_option maxHeartbeats 1000000 in
theorem areNumbers_ok {w : World} {v : Value} {n : Nat} {P : Nat → Nat} (h : RdV w v n (fun i => .float .f32 (P i))) (hn : n ≤ 1048576) (hP : ∀ i, i < n → P i < 4294967296) :
    Calls Try.prog 11 #[v] w fun e w' => e = .returned (.bool ((List.range n).all (fun i => fin (P i)))) ∧ w = w' := by
  obtain ⟨a, cap, rfl, h⟩ := h
  obtain ⟨R, hR⟩ : ∃ R, R = (List.range n).all (fun i => fin (P i)) := ⟨_, rfl⟩
  rw [← hR]
  have HR := Lib.hid hR
  clear hR
  go_enter Try.func11, Try.ntmps11
  go_wp2_with fail
  go_loopw [7] (fun i wr => ∃ k : Nat, i = .int .i64 k ∧ k ≤ n ∧ (∀ j, j < k → fin (P j) = true) ∧ wr = w) (fun i _ => n - (intOf i).toNat)
  case atStart => exact ⟨0, rfl, Nat.zero_le _, fun j hj => absurd hj (Nat.not_lt_zero j), rfl⟩
  case round =>
    obtain ⟨k, rfl, hk, hok, rfl⟩ := hrel
    have HOK := Lib.hid hok
    by_cases hlt : k < n
    · obtain ⟨B, rfl, hl, hc⟩ := h (by omega)
      have ck := hc k hlt
      have F1 := Lib.hid (fun w => isNumber_any (P k) w (hP k hlt))
      have hlt' : (k : Int) < (n : Int) := by omega
      clear hc h hP hok
      generalize hx : P k = x at *
      cases hf : fin x
      · have HY := Lib.hid (show R = false by
          rw [HR.out]
          cases hc : (List.range n).all (fun i => fin (P i))
          · rfl
          · have := List.all_eq_true.1 hc k (List.mem_range.2 hlt)
            simp only [hx, hf] at this
            cases this)
        rw [hf] at F1
        clear HR HOK hx
        go_wp2_with fail
        refine (F1.out _).mono ?_
        rintro e wz ⟨rfl, rfl⟩
        go_wp2_with fail
        exact bodyPost_ret (v := .bool false) (by simp [results, Try.results11, go_sem]) rfl ⟨by rw [HY.out], rfl⟩
      · rw [hf] at F1
        have HX := Lib.hid (show fin (P k) = true by rw [hx, hf])
        clear HR hx
        go_wp2_with fail
        refine (F1.out _).mono ?_
        rintro e wz ⟨rfl, rfl⟩
        go_wp2_with fail
        go_roundw
        case rel =>
          refine ⟨k + 1, by go_num, by omega, fun j hj => ?_, trivial⟩
          rcases Nat.lt_or_ge j k with g | g
          · exact HOK.out j g
          · obtain rfl : j = k := by omega
            exact HX.out
        case measure => simp [intOf]; omega
    · have he : k = n := by omega
      subst he
      have hlt' : ¬ ((k : Int) < (k : Int)) := by omega
      have hall : (List.range k).all (fun i => fin (P i)) = true := List.all_eq_true.2 fun j hj => hok j (List.mem_range.1 hj)
      have HY := Lib.hid (show R = true by rw [HR.out, hall])
      clear HR HOK hall hok h hP
      go_wp2_with fail
      exact bodyPost_ret (v := .bool true) (by simp [results, Try.results11, go_sem]) rfl ⟨by rw [HY.out], rfl⟩

/-- How far the sum has come: all were numbers so far, or the rest is none. -/
def CsAt (P : Nat → Nat) (k : Nat) (s r : Value) : Prop :=
  (s = .float .f32 (csS P k) ∧ r = .float .f32 (csX P k) ∧ ∀ j, j ≤ k → csOk P j = true) ∨
    ∃ s0 r0 j, s = .float .f32 s0 ∧ r = .float .f32 r0 ∧ s0 < 4294967296 ∧ Bad r0 ∧ j ≤ k ∧ csOk P j = false

set_option maxRecDepth 100000 in
set_option maxHeartbeats 4000000 in
theorem implComp_ok {w : World} {v : Value} {n : Nat} {P : Nat → Nat} (h : RdV w v n (fun i => .float .f32 (P i))) (hn : n ≤ 1048576) (hP : ∀ i, i < n → P i < 4294967296) :
    Calls Try.prog 6 #[v] w fun e w' => e = .returned (csRes n P) ∧ Below w.heap.size w w' := by
  have hnum := areNumbers_ok h hn hP
  obtain ⟨a, cap, rfl, h⟩ := h
  obtain ⟨R, hR⟩ : ∃ R, R = csRes n P := ⟨_, rfl⟩
  rw [← hR]
  have HR := Lib.hid hR
  clear hR
  go_enter Try.func6, Try.ntmps6
  go_wp2_with fail
  refine hnum.mono ?_
  rintro e w1 ⟨rfl, rfl⟩
  cases hall : (List.range n).all (fun i => fin (P i))
  · have HY := Lib.hid (show R = .tuple #[.float .f32 0, .int .i64 1] by
      rw [HR.out]
      unfold csRes
      rw [if_pos hall])
    clear HR hall h hP hnum
    go_wp2_with fail
    exact bodyPost_ret (v := .tuple #[.float .f32 0, .int .i64 1]) (by simp [results, Try.results6, go_sem]) rfl ⟨by rw [HY.out], Below.refl _ _⟩
  by_cases hbig : 100 < n
  · have hb' : (100 : Int) < (n : Int) := by omega
    have HY := Lib.hid (show R = .tuple #[.float .f32 0, .int .i64 2] by
      rw [HR.out]
      unfold csRes
      rw [hall, if_neg (by simp), if_pos hbig])
    clear HR hall h hP hnum
    go_wp2_with fail
    exact bodyPost_ret (v := .tuple #[.float .f32 0, .int .i64 2]) (by simp [results, Try.results6, go_sem]) rfl ⟨by rw [HY.out], Below.refl _ _⟩
  have hb' : ¬ (100 : Int) < (n : Int) := by omega
  have HE := Lib.hid (show R = csEnd n P by rw [HR.out, csRes_end hall (by omega)])
  have HN : ∀ i, i < n → Nu (P i) := fun i hi => ⟨hP i hi, List.all_eq_true.1 hall i (List.mem_range.2 hi)⟩
  clear HR hP hnum
  go_wp2_with fail
  clear hall
  go_loopw [4, 5, 17] (fun s r i wr => ∃ k : Nat, i = .int .i64 k ∧ k ≤ n ∧ CsAt P k s r ∧ ∃ m, wr = w.drewN m) (fun _ _ i _ => n - (intOf i).toNat)
  case atStart =>
    refine ⟨0, rfl, Nat.zero_le _, .inl ⟨rfl, rfl, fun j hj => ?_⟩, 0, rfl⟩
    obtain rfl : j = 0 := by omega
    exact csOk_zero P
  case round =>
    obtain ⟨k, rfl, hk, (⟨rfl, rfl, hok⟩ | ⟨s, r, j0, rfl, rfl, hs, hr, hj, hno⟩), m, rfl⟩ := hrel
    · obtain ⟨NS, NX⟩ := csOk_nu (hok k (Nat.le_refl k))
      by_cases hlt : k < n
      · have HOK := Lib.hid hok
        obtain ⟨B, rfl, hl, hc⟩ := h (by omega)
        have ck := hc k hlt
        have NP := HN k hlt
        obtain ⟨q1, q2, q3, q4, q5, q6, q7, q8⟩ := cstep_of NS NX NP
        have ms := mag_top NS
        have mx := mag_top NP
        have Z1 := Lib.hid (fun w => sizeOf_words _ w NS.1)
        have Z2 := Lib.hid (fun w => sizeOf_words _ w NP.1)
        have e1 : csS P (k + 1) = csT (csS P k) (P k) := rfl
        have e2 : csX P (k + 1) = csR (csS P k) (csX P k) (P k) := rfl
        have e3 : csOk P (k + 1) = (fin (csT (csS P k) (P k)) && fin (csR (csS P k) (csX P k) (P k))) := rfl
        have eL : csL (csS P k) (P k) = if mag (P k) ≤ mag (csS P k) then sm (sb (csS P k) (csT (csS P k) (P k))) (P k) else sm (sb (P k) (csT (csS P k) (P k))) (csS P k) := rfl
        have DONE := Lib.hid (show CsAt P (k + 1) (.float .f32 (csT (csS P k) (P k))) (.float .f32 (csR (csS P k) (csX P k) (P k))) by
          cases hf : csOk P (k + 1)
          · exact .inr ⟨_, _, k + 1, rfl, rfl, q7.1, ⟨q8.1, csR_bad NS NX NP (by rw [← e3, hf])⟩, Nat.le_refl _, hf⟩
          · refine .inl ⟨by rw [e1], by rw [e2], fun j hj => ?_⟩
            rcases Nat.lt_or_ge k j with g | g
            · obtain rfl : j = k + 1 := by omega
              exact hf
            · exact HOK.out j g)
        have hlt' : (k : Int) < (n : Int) := by omega
        clear NS NX NP q7 q8 hc h HN hok e1 e2 e3 HOK HE
        generalize csR (csS P k) (csX P k) (P k) = r' at *
        generalize csL (csS P k) (P k) = L at *
        generalize csT (csS P k) (P k) = t' at *
        generalize sm (sb (csS P k) t') (P k) = l1 at *
        generalize sm (sb (P k) t') (csS P k) = l2 at *
        generalize sb (csS P k) t' = u1 at *
        generalize sb (P k) t' = u2 at *
        have rg := three_ways (a := mag (csS P k)) (b := mag (P k)) ms mx
        generalize mag (csS P k) = ms' at *
        generalize mag (P k) = mx' at *
        generalize csS P k = s at *
        generalize csX P k = r at *
        generalize P k = x at *
        have r1 : ∀ w, (binOp .add 23 (.float .f32 s) (.float .f32 x)).run Try.prog w = .ok (.float .f32 t') w := fun w => run_float_arith w .add _ .f32 _ _ _ q1
        have r2 : ∀ w, (binOp .sub 23 (.float .f32 s) (.float .f32 t')).run Try.prog w = .ok (.float .f32 u1) w := fun w => run_float_arith w .sub _ .f32 _ _ _ q2
        have r3 : ∀ w, (binOp .add 23 (.float .f32 u1) (.float .f32 x)).run Try.prog w = .ok (.float .f32 l1) w := fun w => run_float_arith w .add _ .f32 _ _ _ q3
        have r4 : ∀ w, (binOp .sub 23 (.float .f32 x) (.float .f32 t')).run Try.prog w = .ok (.float .f32 u2) w := fun w => run_float_arith w .sub _ .f32 _ _ _ q4
        have r5 : ∀ w, (binOp .add 23 (.float .f32 u2) (.float .f32 s)).run Try.prog w = .ok (.float .f32 l2) w := fun w => run_float_arith w .add _ .f32 _ _ _ q5
        have r6 : ∀ w, (binOp .add 23 (.float .f32 r) (.float .f32 L)).run Try.prog w = .ok (.float .f32 r') w := fun w => run_float_arith w .add _ .f32 _ _ _ q6
        clear q1 q2 q3 q4 q5 q6 ms mx
        obtain ⟨g1, g2, hle⟩ | ⟨g1, g2, hle⟩ | ⟨g1, g2, hle⟩ := rg
        all_goals first | rw [if_pos hle] at eL | rw [if_neg hle] at eL
        all_goals
          subst eL
          clear hle
          go_wp2_with fail
          refine (Z1.out _).mono ?_
          rintro e wz ⟨rfl, rfl⟩
          go_wp2_with fail
          refine (Z2.out _).mono ?_
          rintro e wz ⟨rfl, rfl⟩
          go_wp2_with fail
          go_roundw
          case rel => exact ⟨k + 1, by go_num, by omega, DONE.out, m, rfl⟩
          case measure => simp [intOf]; omega
      · have he : k = n := by omega
        subst he
        have hlt' : ¬ ((k : Int) < (k : Int)) := by omega
        obtain ⟨q1, q2⟩ := add_left NS (nn_of NX)
        have r1 : ∀ w, (binOp .add 23 (.float .f32 (csS P k)) (.float .f32 (csX P k))).run Try.prog w = .ok (.float .f32 (sm (csS P k) (csX P k))) w := fun w => run_float_arith w .add _ .f32 _ _ _ q1
        have L := Lib.hid (fun w => numberOrLimit_any _ w q2.1)
        have HY := Lib.hid (HE.out.trans (csEnd_yes hok))
        obtain ⟨x, c, hform⟩ : ∃ (x : Nat) (c : Int), (if fin (sm (csS P k) (csX P k)) then Value.tuple #[.float .f32 (sm (csS P k) (csX P k)), .int .i64 0] else .tuple #[.float .f32 0, .int .i64 3]) = .tuple #[.float .f32 x, .int .i64 c] := by
          split
          · exact ⟨_, _, rfl⟩
          · exact ⟨_, _, rfl⟩
        rw [hform] at L HY
        clear hform q1 q2 hok NS NX HE h HN
        go_wp2_with fail
        refine (L.out _).mono ?_
        rintro e w1 ⟨rfl, rfl⟩
        go_wp2_with fail
        exact bodyPost_ret (v := .tuple #[.float .f32 x, .int .i64 c]) (by simp [results, Try.results6, go_sem]) rfl ⟨by rw [HY.out], below_drewN (Below.refl _ _) _⟩
    · by_cases hlt : k < n
      · obtain ⟨B, rfl, hl, hc⟩ := h (by omega)
        have ck := hc k hlt
        have NP := HN k hlt
        have NPl := NP.1
        have Z1 := Lib.hid (fun w => sizeOf_words s w hs)
        have Z2 := Lib.hid (fun w => sizeOf_words _ w NP.1)
        have hlt' : (k : Int) < (n : Int) := by omega
        have HNO := Lib.hid (And.intro hj hno)
        clear NP hc h HN HE hj hno
        obtain ⟨g1, g2, hg⟩ : ∃ g1 g2, (FloatKind.f32.format.order (mag s) (mag (P k)) == some .gt) = g1 ∧ (FloatKind.f32.format.order (mag s) (mag (P k)) == some .eq) = g2 := ⟨_, _, rfl, rfl⟩
        obtain ⟨g1', g2'⟩ := hg
        generalize mag s = ms' at *
        generalize mag (P k) = mx' at *
        generalize P k = x at *
        obtain ⟨b1, n1, h1⟩ := any_op .add (.inl rfl) 23 hs NPl
        have r1 := fun w => (h1 w).1
        have hb1 := Lib.hid (fun w => (h1 w).2)
        clear h1
        go_wp2_with fail
        refine (Z1.out _).mono ?_
        rintro e wz ⟨rfl, rfl⟩
        go_wp2_with fail
        refine (Z2.out _).mono ?_
        rintro e wz ⟨rfl, rfl⟩
        have ht := hb1.out (w.drewN m)
        generalize b1 (w.drewN m) = t' at *
        generalize n1 (w.drewN m) = k1 at *
        have TL := Lib.hid ht
        clear r1 hb1 b1 n1
        by_cases hge : g1 = true ∨ g2 = true
        · obtain ⟨b2, n2, b3, n3, b6, n6, r2, r3, r6, hb6⟩ := bad_step 23 hr hs ht NPl
          have HB6 := Lib.hid hb6
          clear hb6 hr hs ht NPl
          cases g1 <;> cases g2
          · simp at hge
          all_goals
            clear hge
            go_wp2_with fail
            go_roundw
            case rel => exact ⟨k + 1, by go_num, by omega, .inr ⟨_, _, j0, rfl, rfl, TL.out, HB6.out _ _ _, Nat.le_succ_of_le HNO.out.1, HNO.out.2⟩, _, rfl⟩
            case measure => simp [intOf]; omega
        · obtain ⟨b2, n2, b3, n3, b6, n6, r2, r3, r6, hb6⟩ := bad_step 23 hr NPl ht hs
          have HB6 := Lib.hid hb6
          obtain ⟨rfl, rfl⟩ : g1 = false ∧ g2 = false := by simpa using hge
          clear hb6 hr hs ht NPl hge
          go_wp2_with fail
          go_roundw
          case rel => exact ⟨k + 1, by go_num, by omega, .inr ⟨_, _, j0, rfl, rfl, TL.out, HB6.out _ _ _, Nat.le_succ_of_le HNO.out.1, HNO.out.2⟩, _, rfl⟩
          case measure => simp [intOf]; omega
      · have he : k = n := by omega
        subst he
        have hlt' : ¬ ((k : Int) < (k : Int)) := by omega
        have HY := Lib.hid (HE.out.trans (csEnd_no hj hno))
        obtain ⟨b1, n1, h1⟩ := add_bad 23 hs hr.1 (.inr hr.2)
        have r1 := fun w => (h1 w).1
        have L := Lib.hid (fun w w' => (numberOrLimit_any (b1 w) w' (h1 w).2.1))
        have hb1 := Lib.hid (fun w => (h1 w).2.2)
        simp only [hb1.out] at L
        clear h1 hs hr hj hno HE h HN
        go_wp2_with fail
        refine (L.out _ _).mono ?_
        rintro e w1 ⟨rfl, rfl⟩
        go_wp2_with fail
        exact bodyPost_ret (v := .tuple #[.float .f32 0, .int .i64 3]) (by simp [results, Try.results6, go_sem]) rfl ⟨by rw [HY.out], below_drewN (Below.refl _ _) _⟩

theorem compOk : CompOk := fun _ _ _ _ h hn hP => implComp_ok h hn hP

theorem compHolds : Rows.FnExactCompensatedSumSaid := CompSum.holds compOk
end Go.Proofs.Ytibmaflcfmphgaa
