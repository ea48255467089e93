/- CompensatedSum of the specification. -/
import Derived.Test.YtibmaflcfmphgaaCs1
import Derived.Test.YtibmaflcfmphgaaIn2
import Derived.Test.YtibmaflcfmphgaaOv
import Derived.LoopTactic
namespace Go.Proofs.Ytibmaflcfmphgaa
open Go.RowKit

theorem l02Size_ok {x : Nat} (hx : Nu x) (w : World) : Calls Try.prog 14 #[.float .f32 x] w fun e w' => e = .returned (.float .f32 (mag x)) ∧ w = w' := by
  have M := fun ts t w => max_size (P := Try.prog) hx w ts t
  clear hx
  go_enter Try.func14, Try.ntmps14
  go_wp2_with fail
  go_ret
  exact ⟨rfl, rfl⟩

theorem l01Number_fin (x : Nat) (hx : x < 4294967296) (w : World) : Calls Try.prog 15 #[.float .f32 x] w fun e w' => e = .returned (if fin x then .tuple #[.float .f32 x, .int .i64 0] else .tuple #[.float .f32 0, .int .i64 3]) ∧ Below w.heap.size w w' := by
  have h := fw_some hx
  rw [← numOr_of h]
  exact l01Number1_any x w h

theorem sm_lt (x y : Nat) : sm x y < 4294967296 := by
  unfold sm
  cases h : floatBits .add .f32 x y with
  | none => simp
  | some v => exact floatBits_lt h

theorem csS_lt (P : Nat → Nat) (k : Nat) : csS P k < 4294967296 ∧ csX P k < 4294967296 := by
  cases k with
  | zero => exact ⟨by show (0 : Nat) < _; omega, by show (0 : Nat) < _; omega⟩
  | succ k => exact ⟨sm_lt _ _, sm_lt _ _⟩

theorem csOk_zero (P : Nat → Nat) : csOk P 0 = true := by
  show (fin 0 && fin 0) = true
  decide +kernel

theorem csOk_nu {P : Nat → Nat} {k : Nat} (h : csOk P k = true) : Nu (csS P k) ∧ Nu (csX P k) := by
  unfold csOk at h
  simp only [Bool.and_eq_true] at h
  exact ⟨⟨(csS_lt P k).1, h.1⟩, ⟨(csS_lt P k).2, h.2⟩⟩

/-- What is answered behind the checks. -/
def csEnd (n : Nat) (P : Nat → Nat) : Value :=
  if (List.range (n + 1)).all (csOk P) = false then .tuple #[.float .f32 0, .int .i64 3]
  else if fin (sm (csS P n) (csX P n)) then .tuple #[.float .f32 (sm (csS P n) (csX P n)), .int .i64 0] else .tuple #[.float .f32 0, .int .i64 3]

theorem csEnd_no {n k : Nat} {P : Nat → Nat} (hk : k ≤ n) (h : csOk P k = false) : csEnd n P = .tuple #[.float .f32 0, .int .i64 3] := by
  unfold csEnd
  rw [if_pos]
  cases hc : (List.range (n + 1)).all (csOk P)
  · rfl
  · have := List.all_eq_true.1 hc k (List.mem_range.2 (by omega))
    rw [h] at this
    cases this

theorem csEnd_yes {n : Nat} {P : Nat → Nat} (h : ∀ j, j ≤ n → csOk P j = true) : csEnd n P = if fin (sm (csS P n) (csX P n)) then .tuple #[.float .f32 (sm (csS P n) (csX P n)), .int .i64 0] else .tuple #[.float .f32 0, .int .i64 3] := by
  unfold csEnd
  rw [if_neg]
  have : (List.range (n + 1)).all (csOk P) = true := List.all_eq_true.2 fun j hj => h j (by have := List.mem_range.1 hj; omega)
  simp [this]

set_option maxRecDepth 100000 in
set_option maxHeartbeats 4000000 in
theorem l10Sum_ok {w : World} {v : Value} {n : Nat} {P : Nat → Nat} (h : RdV w v n (fun i => .float .f32 (P i))) (hn : n ≤ 1048576) (hP : ∀ i, i < n → Nu (P i)) :
    Calls Try.prog 10 #[v] w fun e w' => e = .returned (csEnd n P) ∧ Below w.heap.size w w' := by
  obtain ⟨a, cap, rfl, h⟩ := h
  obtain ⟨R, hR⟩ : ∃ R, R = csEnd n P := ⟨_, rfl⟩
  rw [← hR]
  have HR := Lib.hid hR
  clear hR
  go_enter Try.func10, Try.ntmps10
  go_wp2_with fail
  go_loopw [4, 5, 6] (fun s r i wr => ∃ k : Nat, i = .int .i64 k ∧ s = .float .f32 (csS P k) ∧ r = .float .f32 (csX P k) ∧ k ≤ n ∧ (∀ j, j ≤ k → csOk P j = true) ∧ ∃ m, wr = w.drewN m) (fun _ _ i _ => n - (intOf i).toNat)
  case atStart =>
    refine ⟨0, rfl, rfl, rfl, Nat.zero_le _, fun j hj => ?_, 0, rfl⟩
    obtain rfl : j = 0 := by omega
    exact csOk_zero P
  case round =>
    obtain ⟨k, rfl, rfl, rfl, hk, hok, m, rfl⟩ := hrel
    obtain ⟨NS, NX⟩ := csOk_nu (hok k (Nat.le_refl k))
    by_cases hlt : k < n
    · have HOK := Lib.hid hok
      obtain ⟨B, rfl, hl, hc⟩ := h (by omega)
      have ck := hc k hlt
      have NP := hP k hlt
      obtain ⟨q1, q2, q3, q4, q5, q6, q7, q8⟩ := cstep_of NS NX NP
      have ms := mag_top NS
      have mx := mag_top NP
      have Z1 := Lib.hid (fun w => l02Size_ok NS w)
      have Z2 := Lib.hid (fun w => l02Size_ok NP w)
      have F1 := Lib.hid (fun w => fine_any _ w q7.1)
      have F2 := Lib.hid (fun w => fine_any _ w q8.1)
      have e1 : csS P (k + 1) = csT (csS P k) (P k) := rfl
      have e2 : csX P (k + 1) = csR (csS P k) (csX P k) (P k) := rfl
      have e3 : csOk P (k + 1) = (fin (csT (csS P k) (P k)) && fin (csR (csS P k) (csX P k) (P k))) := rfl
      have eL : csL (csS P k) (P k) = if mag (P k) ≤ mag (csS P k) then sm (sb (csS P k) (csT (csS P k) (P k))) (P k) else sm (sb (P k) (csT (csS P k) (P k))) (csS P k) := rfl
      have E1 := Lib.hid e1
      have E2 := Lib.hid e2
      have E3 := Lib.hid e3
      have hlt' : (k : Int) < (n : Int) := by omega
      clear NS NX NP q7 q8 hc h hP hok e1 e2 e3
      generalize csR (csS P k) (csX P k) (P k) = r' at *
      generalize csL (csS P k) (P k) = L at *
      generalize csT (csS P k) (P k) = t' at *
      generalize sm (sb (csS P k) t') (P k) = l1 at *
      generalize sm (sb (P k) t') (csS P k) = l2 at *
      generalize sb (csS P k) t' = u1 at *
      generalize sb (P k) t' = u2 at *
      have rg := three_ways (a := mag (csS P k)) (b := mag (P k)) ms mx
      generalize mag (csS P k) = ms' at *
      generalize mag (P k) = mx' at *
      generalize csS P k = s at *
      generalize csX P k = r at *
      generalize P k = x at *
      have r1 : ∀ w, (binOp .add 23 (.float .f32 s) (.float .f32 x)).run Try.prog w = .ok (.float .f32 t') w := fun w => run_float_arith w .add _ .f32 _ _ _ q1
      have r2 : ∀ w, (binOp .sub 23 (.float .f32 s) (.float .f32 t')).run Try.prog w = .ok (.float .f32 u1) w := fun w => run_float_arith w .sub _ .f32 _ _ _ q2
      have r3 : ∀ w, (binOp .add 23 (.float .f32 u1) (.float .f32 x)).run Try.prog w = .ok (.float .f32 l1) w := fun w => run_float_arith w .add _ .f32 _ _ _ q3
      have r4 : ∀ w, (binOp .sub 23 (.float .f32 x) (.float .f32 t')).run Try.prog w = .ok (.float .f32 u2) w := fun w => run_float_arith w .sub _ .f32 _ _ _ q4
      have r5 : ∀ w, (binOp .add 23 (.float .f32 u2) (.float .f32 s)).run Try.prog w = .ok (.float .f32 l2) w := fun w => run_float_arith w .add _ .f32 _ _ _ q5
      have r6 : ∀ w, (binOp .add 23 (.float .f32 r) (.float .f32 L)).run Try.prog w = .ok (.float .f32 r') w := fun w => run_float_arith w .add _ .f32 _ _ _ q6
      clear q1 q2 q3 q4 q5 q6 ms mx
      obtain ⟨g1, g2, hle⟩ | ⟨g1, g2, hle⟩ | ⟨g1, g2, hle⟩ := rg
      · rw [if_pos hle] at eL
        subst eL
        clear hle
        go_wp2_with fail
        refine (Z1.out _).mono ?_
        rintro e wz ⟨rfl, rfl⟩
        go_wp2_with fail
        refine (Z2.out _).mono ?_
        rintro e wz ⟨rfl, rfl⟩
        go_wp2_with fail
        refine (F1.out _).mono ?_
        rintro e wz ⟨rfl, m1, rfl⟩
        cases hf1 : fin t'
        · have HN := csEnd_no (n := n) (P := P) (k := k + 1) (by omega) (by rw [E3.out, hf1]; rfl)
          rw [hf1] at F1
          have HRN := Lib.hid (HR.out.trans HN)
          clear HN HR HOK E1 E2 E3
          go_wp2_with fail
          exact bodyPost_ret (v := .tuple #[.float .f32 0, .int .i64 3]) (by simp [results, Try.results10, go_sem]) rfl ⟨by rw [HRN.out], below_drewN (Below.refl _ _) _⟩
        · go_wp2_with fail
          refine (F2.out _).mono ?_
          rintro e wz ⟨rfl, m2, rfl⟩
          cases hf2 : fin r'
          · have HN := csEnd_no (n := n) (P := P) (k := k + 1) (by omega) (by rw [E3.out, hf1, hf2]; rfl)
            have HRN := Lib.hid (HR.out.trans HN)
            clear HN HR HOK E1 E2 E3
            go_wp2_with fail
            exact bodyPost_ret (v := .tuple #[.float .f32 0, .int .i64 3]) (by simp [results, Try.results10, go_sem]) rfl ⟨by rw [HRN.out], below_drewN (Below.refl _ _) _⟩
          · have E4 := Lib.hid (show csOk P (k + 1) = true by rw [E3.out, hf1, hf2]; rfl)
            go_wp2_with fail
            go_roundw
            case rel =>
              refine ⟨k + 1, by go_num, by rw [E1.out], by rw [E2.out], by omega, fun j hj => ?_, ?_⟩
              · rcases Nat.lt_or_ge k j with g | g
                · obtain rfl : j = k + 1 := by omega
                  exact E4.out
                · exact HOK.out j g
              · exact ⟨m + m1 + m2, by simp [World.drewN_drewN, Nat.add_assoc]⟩
            case measure => simp [intOf]; omega
      · rw [if_pos hle] at eL
        subst eL
        clear hle
        go_wp2_with fail
        refine (Z1.out _).mono ?_
        rintro e wz ⟨rfl, rfl⟩
        go_wp2_with fail
        refine (Z2.out _).mono ?_
        rintro e wz ⟨rfl, rfl⟩
        go_wp2_with fail
        refine (F1.out _).mono ?_
        rintro e wz ⟨rfl, m1, rfl⟩
        cases hf1 : fin t'
        · have HN := csEnd_no (n := n) (P := P) (k := k + 1) (by omega) (by rw [E3.out, hf1]; rfl)
          rw [hf1] at F1
          have HRN := Lib.hid (HR.out.trans HN)
          clear HN HR HOK E1 E2 E3
          go_wp2_with fail
          exact bodyPost_ret (v := .tuple #[.float .f32 0, .int .i64 3]) (by simp [results, Try.results10, go_sem]) rfl ⟨by rw [HRN.out], below_drewN (Below.refl _ _) _⟩
        · go_wp2_with fail
          refine (F2.out _).mono ?_
          rintro e wz ⟨rfl, m2, rfl⟩
          cases hf2 : fin r'
          · have HN := csEnd_no (n := n) (P := P) (k := k + 1) (by omega) (by rw [E3.out, hf1, hf2]; rfl)
            have HRN := Lib.hid (HR.out.trans HN)
            clear HN HR HOK E1 E2 E3
            go_wp2_with fail
            exact bodyPost_ret (v := .tuple #[.float .f32 0, .int .i64 3]) (by simp [results, Try.results10, go_sem]) rfl ⟨by rw [HRN.out], below_drewN (Below.refl _ _) _⟩
          · have E4 := Lib.hid (show csOk P (k + 1) = true by rw [E3.out, hf1, hf2]; rfl)
            go_wp2_with fail
            go_roundw
            case rel =>
              refine ⟨k + 1, by go_num, by rw [E1.out], by rw [E2.out], by omega, fun j hj => ?_, ?_⟩
              · rcases Nat.lt_or_ge k j with g | g
                · obtain rfl : j = k + 1 := by omega
                  exact E4.out
                · exact HOK.out j g
              · exact ⟨m + m1 + m2, by simp [World.drewN_drewN, Nat.add_assoc]⟩
            case measure => simp [intOf]; omega
      · rw [if_neg hle] at eL
        subst eL
        clear hle
        go_wp2_with fail
        refine (Z1.out _).mono ?_
        rintro e wz ⟨rfl, rfl⟩
        go_wp2_with fail
        refine (Z2.out _).mono ?_
        rintro e wz ⟨rfl, rfl⟩
        go_wp2_with fail
        refine (F1.out _).mono ?_
        rintro e wz ⟨rfl, m1, rfl⟩
        cases hf1 : fin t'
        · have HN := csEnd_no (n := n) (P := P) (k := k + 1) (by omega) (by rw [E3.out, hf1]; rfl)
          rw [hf1] at F1
          have HRN := Lib.hid (HR.out.trans HN)
          clear HN HR HOK E1 E2 E3
          go_wp2_with fail
          exact bodyPost_ret (v := .tuple #[.float .f32 0, .int .i64 3]) (by simp [results, Try.results10, go_sem]) rfl ⟨by rw [HRN.out], below_drewN (Below.refl _ _) _⟩
        · go_wp2_with fail
          refine (F2.out _).mono ?_
          rintro e wz ⟨rfl, m2, rfl⟩
          cases hf2 : fin r'
          · have HN := csEnd_no (n := n) (P := P) (k := k + 1) (by omega) (by rw [E3.out, hf1, hf2]; rfl)
            have HRN := Lib.hid (HR.out.trans HN)
            clear HN HR HOK E1 E2 E3
            go_wp2_with fail
            exact bodyPost_ret (v := .tuple #[.float .f32 0, .int .i64 3]) (by simp [results, Try.results10, go_sem]) rfl ⟨by rw [HRN.out], below_drewN (Below.refl _ _) _⟩
          · have E4 := Lib.hid (show csOk P (k + 1) = true by rw [E3.out, hf1, hf2]; rfl)
            go_wp2_with fail
            go_roundw
            case rel =>
              refine ⟨k + 1, by go_num, by rw [E1.out], by rw [E2.out], by omega, fun j hj => ?_, ?_⟩
              · rcases Nat.lt_or_ge k j with g | g
                · obtain rfl : j = k + 1 := by omega
                  exact E4.out
                · exact HOK.out j g
              · exact ⟨m + m1 + m2, by simp [World.drewN_drewN, Nat.add_assoc]⟩
            case measure => simp [intOf]; omega
    · have he : k = n := by omega
      subst he
      have hlt' : ¬ ((k : Int) < (k : Int)) := by omega
      obtain ⟨q1, q2⟩ := add_left NS (nn_of NX)
      have r1 : ∀ w, (binOp .add 23 (.float .f32 (csS P k)) (.float .f32 (csX P k))).run Try.prog w = .ok (.float .f32 (sm (csS P k) (csX P k))) w := fun w => run_float_arith w .add _ .f32 _ _ _ q1
      have L := Lib.hid (fun w => l01Number_fin _ q2.1 w)
      have HY := Lib.hid (HR.out.trans (csEnd_yes hok))
      obtain ⟨x, c, hform⟩ : ∃ (x : Nat) (c : Int), (if fin (sm (csS P k) (csX P k)) then Value.tuple #[.float .f32 (sm (csS P k) (csX P k)), .int .i64 0] else .tuple #[.float .f32 0, .int .i64 3]) = .tuple #[.float .f32 x, .int .i64 c] := by
        split
        · exact ⟨_, _, rfl⟩
        · exact ⟨_, _, rfl⟩
      rw [hform] at L HY
      clear hform q1 q2 hok NS NX HR h hP
      go_wp2_with fail
      refine (L.out _).mono ?_
      rintro e w1 ⟨rfl, hb1⟩
      have HB := Lib.hid (show Below w.heap.size w w1 from below_step hb1 (below_drewN (Below.refl _ _) m) (by simp))
      clear hb1
      go_wp2_with fail
      exact bodyPost_ret (v := .tuple #[.float .f32 x, .int .i64 c]) (by simp [results, Try.results10, go_sem]) rfl ⟨by rw [HY.out], HB.out⟩

theorem csRes_end {n : Nat} {P : Nat → Nat} (h : (List.range n).all (fun i => fin (P i)) = true) (hn : n ≤ 100) : csRes n P = csEnd n P := by
  unfold csRes csEnd
  rw [h, if_neg (by simp), if_neg (by omega)]

set_option maxRecDepth 100000 in
set_option maxHeartbeats 4000000 in
theorem specComp_ok {w : World} {v : Value} {n : Nat} {P : Nat → Nat} (h : RdV w v n (fun i => .float .f32 (P i))) (hn : n ≤ 1048576) (hP : ∀ i, i < n → P i < 4294967296) :
    Calls Try.prog 4 #[v] w fun e w' => e = .returned (csRes n P) ∧ Below w.heap.size w w' := by
  have h0 := h
  obtain ⟨a, cap, rfl, h⟩ := h
  obtain ⟨R, hR⟩ : ∃ R, R = csRes n P := ⟨_, rfl⟩
  rw [← hR]
  have HR := Lib.hid hR
  have H0 := Lib.hid h0
  clear hR h0
  go_enter Try.func4, Try.ntmps4
  go_wp2_with fail
  go_loopw [4] (fun i wr => ∃ k : Nat, i = .int .i64 k ∧ k ≤ n ∧ (∀ j, j < k → fin (P j) = true) ∧ ∃ m, wr = w.drewN m) (fun i _ => n - (intOf i).toNat)
  case atStart => exact ⟨0, rfl, Nat.zero_le _, fun j hj => absurd hj (Nat.not_lt_zero j), 0, rfl⟩
  case round =>
    obtain ⟨k, rfl, hk, hok, m, rfl⟩ := hrel
    have HOK := Lib.hid hok
    by_cases hlt : k < n
    · obtain ⟨B, rfl, hl, hc⟩ := h (by omega)
      have ck := hc k hlt
      have F1 := Lib.hid (fun w => fine_any (P k) w (hP k hlt))
      have hlt' : (k : Int) < (n : Int) := by omega
      clear hc h hP hok
      generalize hx : P k = x at *
      cases hf : fin x
      · have HY := Lib.hid (show R = .tuple #[.float .f32 0, .int .i64 1] by
          rw [HR.out]
          unfold csRes
          rw [if_pos]
          cases hc : (List.range n).all (fun i => fin (P i))
          · rfl
          · have := List.all_eq_true.1 hc k (List.mem_range.2 hlt)
            simp only [hx, hf] at this
            cases this)
        rw [hf] at F1
        clear HR HOK hx
        go_wp2_with fail
        refine (F1.out _).mono ?_
        rintro e wz ⟨rfl, m1, rfl⟩
        go_wp2_with fail
        exact bodyPost_ret (v := .tuple #[.float .f32 0, .int .i64 1]) (by simp [results, Try.results4, go_sem]) rfl ⟨by rw [HY.out], below_drewN (Below.refl _ _) _⟩
      · rw [hf] at F1
        have HX := Lib.hid (show fin (P k) = true by rw [hx, hf])
        clear HR hx
        go_wp2_with fail
        refine (F1.out _).mono ?_
        rintro e wz ⟨rfl, m1, rfl⟩
        go_wp2_with fail
        go_roundw
        case rel =>
          refine ⟨k + 1, by go_num, by omega, fun j hj => ?_, m + m1, by simp [World.drewN_drewN]⟩
          rcases Nat.lt_or_ge j k with g | g
          · exact HOK.out j g
          · obtain rfl : j = k := by omega
            exact HX.out
        case measure => simp [intOf]; omega
    · have he : k = n := by omega
      subst he
      have hlt' : ¬ ((k : Int) < (k : Int)) := by omega
      have hall : (List.range k).all (fun i => fin (P i)) = true := List.all_eq_true.2 fun j hj => hok j (List.mem_range.1 hj)
      by_cases hbig : 100 < k
      · have HY := Lib.hid (show R = .tuple #[.float .f32 0, .int .i64 2] by
          rw [HR.out]
          unfold csRes
          rw [hall, if_neg (by simp), if_pos hbig])
        have hb' : (100 : Int) < (k : Int) := by omega
        clear HR HOK hall hok h hP H0
        go_wp2_with fail
        exact bodyPost_ret (v := .tuple #[.float .f32 0, .int .i64 2]) (by simp [results, Try.results4, go_sem]) rfl ⟨by rw [HY.out], below_drewN (Below.refl _ _) _⟩
      · have hb' : ¬ ((100 : Int) < (k : Int)) := by omega
        have S := Lib.hid (l10Sum_ok (w := w.drewN m) (P := P) (n := k) (by
          obtain ⟨a', cap', e', h'⟩ := H0.out
          exact ⟨a', cap', e', h'⟩) hn (fun i hi => ⟨hP i hi, hok i hi⟩))
        have HY := Lib.hid (show R = csEnd k P by rw [HR.out, csRes_end hall (by omega)])
        obtain ⟨x, c, hform, _⟩ := csRes_form (n := k) (P := P)
        rw [csRes_end hall (by omega)] at hform
        rw [hform] at S HY
        clear HR HOK hall hok h hP H0 hform
        go_wp2_with fail
        refine S.out.mono ?_
        rintro e w1 ⟨rfl, hb1⟩
        have HB := Lib.hid (show Below w.heap.size w w1 from below_step hb1 (below_drewN (Below.refl _ _) m) (by simp))
        clear hb1
        go_wp2_with fail
        exact bodyPost_ret (v := .tuple #[.float .f32 x, .int .i64 c]) (by simp [results, Try.results4, go_sem]) rfl ⟨by rw [HY.out], HB.out⟩
end Go.Proofs.Ytibmaflcfmphgaa
