/- Walks: drifts, as the specification has them. -/
import Derived.Test.YtmaohbddmafifaaDv
import Derived.Deep.RegionHeld3
namespace Go.Proofs.Ytmaohbddmafifaa
open Go.RowKit

theorem TC.grown {W W' : World} {B : Nat} {t : Tb} {row : Option Nat} (h : TC W B t) (hg : W.grownBy W' row) (hne : some B ≠ row) : TC W' B t :=
  ⟨(hg.cell_far ⟨B, 0, none⟩ h.lt hne).trans h.c0, (hg.cell_far ⟨B, 1, none⟩ h.lt hne).trans h.c1, (hg.cell_far ⟨B, 2, none⟩ h.lt hne).trans h.c2, (hg.cell_far ⟨B, 3, none⟩ h.lt hne).trans h.c3,
   (hg.frozen_far ⟨B, 0, none⟩ h.lt hne).trans h.f0, (hg.frozen_far ⟨B, 1, none⟩ h.lt hne).trans h.f1, (hg.frozen_far ⟨B, 2, none⟩ h.lt hne).trans h.f2, (hg.frozen_far ⟨B, 3, none⟩ h.lt hne).trans h.f3, Nat.lt_of_lt_of_le h.lt hg.size⟩

theorem owns_set2 {w : World} {base n size B i : Nat} {e : TypeId} {xs : List Value} {v u : Value} (h : w.ownsRow base e size v n xs) (hne : v.ownBlock ≠ some B) : (w.setCell ⟨B, i, none⟩ u).ownsRow base e size v n xs := by
  obtain ⟨h1, ⟨rfl, rfl⟩ | ⟨g, cap, cur, rfl, hg, hk, hn, hm, hs, ht⟩⟩ := h
  · exact ⟨h1, .inl ⟨rfl, rfl⟩⟩
  · have hgB : g ≠ B := by
      intro e
      exact hne (by rw [e]; rfl)
    exact ⟨h1, .inr ⟨g, cap, cur, rfl, hg, (Below.heap_setCell w ⟨B, i, none⟩ u g hgB).trans hk, hn, hm, hs, ht⟩⟩

theorem TC.drew2 {W : World} {B : Nat} {t : Tb} (h : TC W B t) : TC W.drew B t := ⟨h.c0, h.c1, h.c2, h.c3, h.f0, h.f1, h.f2, h.f3, h.lt⟩

set_option maxRecDepth 100000 in
set_option maxHeartbeats 4000000 in
theorem specDrifts_yes {n : Nat} {P : Nat → Pu} (hn : n ≤ 60) (hs : seqB n P = true) : GivesV 60 27 n P (n + 1) (fun i => .float .f32 (driftS (tabS P i))) 0 := by
  intro w b off cap hcap h
  have HI := Lib.hid (l05Is_ok h (by omega))
  rw [hs] at HI
  have H := Lib.hid h
  have HOK := Lib.hid (fun i (hi : i < n) => by
    have := hs
    unfold seqB at this
    simp only [Bool.and_eq_true, List.all_eq_true, List.mem_range] at this
    exact this.1 i hi)
  have HU := Lib.hid (fun w => by have := l03Unit_any w; rw [four] at this; exact this)
  obtain ⟨ti, ti1, z1, z2, z3⟩ := info_parts infoF32
  clear h hs
  go_enter Try.func27, Try.ntmps27
  go_wp2_with fail
  refine HI.out.mono ?_
  rintro e w' ⟨rfl, rfl⟩
  go_wp2_with fail
  refine (HU.out _).mono ?_
  rintro e w1 ⟨rfl, hb1⟩
  have HB1 := Lib.hid (Below.trans ((Below.refl w.heap.size w).alloc (Nat.le_refl _) _) (hb1.mono (by simp)))
  have HO1 := Lib.hid (owns_below (World.ownsRow_made (base := w.heap.size) (e := 60) (size := 1) w #[] 0 (Nat.le_refl _) (Nat.zero_le _) rfl) hb1)
  have hsz1 := hb1.size
  simp only [World.size_alloc] at hsz1
  clear hb1
  go_wp2_with fail
  have T1 := Lib.hid (TC.new w1 58 unitS)
  have hBne : w.heap.size < w1.heap.size := by omega
  generalize hB : w1.heap.size = B at *
  have HBB := Lib.hid hB
  clear hB hsz1
  go_loopw [4, 6] (fun v i wr => ∃ k : Nat, i = .int .i64 k ∧ k ≤ n + 1 ∧ wr.ownsRow w.heap.size 60 1 v k (fl (fun j => driftS (tabS P j)) k) ∧ v.ownBlock ≠ some B ∧ Below w.heap.size w wr ∧ TC wr B (tabS P (min k n))) (fun _ i _ => n + 1 - (intOf i).toNat)
  case atStart => exact ⟨0, rfl, Nat.zero_le _, HO1.out.alloc _, by simp [Value.ownBlock]; omega, HB1.out.alloc (by rw [HBB.out]; omega) _, by rw [Nat.zero_min]; exact T1.out⟩
  case round =>
    obtain ⟨k, rfl, hk, hown, hbl, hb, ht⟩ := hrel
    by_cases hlt : k < n + 1
    · have hlt' : (k : Int) ≤ (n : Int) := by omega
      rw [Nat.min_eq_left (show k ≤ n by omega)] at ht
      obtain ⟨t1, _, _⟩ := tabs_ok HOK.out k (by omega) (by omega)
      have HD := Lib.hid (fun w => by have := specDrift_ok t1 (by omega) w; rw [four] at this; exact this)
      have hfl := fl_next (fun j => driftS (tabS P j)) k
      have HF := Lib.hid hfl
      have hM : k < n → MulOk (pulseTb (P k)) (tabS P k) := fun h => (mul_ok_of HOK.out h hn).2
      have hnx : tabS P (k + 1) = (pulseTb (P k)).mul (tabS P k) := rfl
      generalize driftS (tabS P k) = d at *
      generalize hMM : tabS P k = M at *
      have HMM := Lib.hid hMM
      clear hMM
      have HM := Lib.hid hM
      have HNX := Lib.hid hnx
      have HB := Lib.hid hb
      have HO := Lib.hid hown
      have HT := Lib.hid ht
      have HBL := Lib.hid hbl
      obtain ⟨m0, m1, m2, m3, g0, g1, g2, g3, gl⟩ := ht
      clear hb hown t1 hfl hM hnx hbl
      go_wp2_with fail
      refine (HD.out _).mono ?_
      rintro e w2 ⟨rfl, hb2⟩
      have HB2 := Lib.hid (HB.out.trans (hb2.mono HB.out.size))
      have HO2 := Lib.hid (owns_below HO.out hb2)
      have HT2 := Lib.hid (HT.out.below hb2)
      have hsz2 := HB2.out.size
      clear hb2 m0 m1 m2 m3 g0 g1 g2 g3 gl
      go_wp2_with (at_builtin; refine stop_list ?_)
      unfold Hid
      refine wpList_append_own_at _ rfl _ _ 37 rfl w.heap.size 60 ti _ 1 4 Try.underlying37 ti1 z1 z2 z3 rfl (by decide) _ k _ rfl (by exact HO2.out.alloc _) ⟨w2.heap.size, 0, none⟩ 1 _ [.float .f32 d] rfl rfl (news_one (by simp [go_sem])) one_float (by unfold maxLen; omega) (by omega) (by simp; omega) ?_
      intro v4 w4 hown hgrow hnil hblk
      have HO4 := Lib.hid hown
      have HB4 := Lib.hid (Below.grown (a := w) (by exact Below.alloc_own HB2.out _) hgrow (by simp; omega) (by intro g hg; exact (World.ownsRow.lt HO2.out g hg).1))
      have HT4 := Lib.hid ((HT2.out.alloc _).grown hgrow (fun e => HBL.out e.symm))
      have HBL4 : Hid (v4.ownBlock ≠ some B) := Lib.hid (by
        rcases hblk with e | e
        · rw [e]; exact HBL.out
        · rw [e]
          intro e2
          injection e2 with e2
          have := HT2.out.lt
          simp at e2
          omega)
      clear hown hgrow hnil hblk
      by_cases hlast : k < n
      · have hlast' : (k : Int) < (n : Int) := by omega
        obtain ⟨_, _, hv, h⟩ := H.out
        injection hv with q1 _ q3
        subst q1 q3
        obtain ⟨b', off', q5, hl, hc⟩ := h (by omega)
        injection q5 with q5
        injection q5 with q6 q7
        subst q6 q7
        obtain ⟨c0, c1, c2⟩ := hc k hlast
        rw [← HB4.out.cell (p := ⟨b, _, none⟩) hl] at c0 c1 c2
        have hl4 : b < w4.heap.size := Nat.lt_of_lt_of_le hl HB4.out.size
        have hBb : B ≠ b := by omega
        obtain ⟨m0, m1, m2, m3, g0, g1, g2, g3, gl⟩ := HT4.out
        have HP := Lib.hid (fun w => by have := l05Pulse_ok (HOK.out k hlast) w; rw [four] at this; exact this)
        have HMu := Lib.hid (fun w => by have := l03Times_ok (HM.out hlast) w; rw [four, four, four] at this; exact this)
        generalize hQ : (pulseTb (P k)).mul M = Q at *
        generalize pulseTb (P k) = T at *
        have HQ := Lib.hid hQ
        clear h hc hQ
        go_wp2_with fail
        go_region_with
          ((first
            | (go_at_call 44; refine (HP.out _).mono ?_; rintro e w5 ⟨rfl, hb5⟩; have hb5' : Below w4.heap.size w4 w5 := ⟨hb5.os, hb5.tape, hb5.output, hb5.size, hb5.block⟩; have HB5 := Lib.hid hb5'; obtain ⟨m0, m1, m2, m3, g0, g1, g2, g3, gl⟩ := HT4.out.below hb5'; have p0 := (hb5'.cell (p := ⟨b, _, none⟩) hl4).trans c0; have p1 := (hb5'.cell (p := ⟨b, _, none⟩) hl4).trans c1; have p2 := (hb5'.cell (p := ⟨b, _, none⟩) hl4).trans c2; clear hb5 hb5')
            | (go_at_call 43; refine (HMu.out _).mono ?_; rintro e w6 ⟨rfl, hb6⟩; have hb6' : Below w4.heap.size w4 w6 := HB5.out.trans (hb6.mono HB5.out.size); have HB6 := Lib.hid hb6'; have HT6 := Lib.hid (HT4.out.below hb6'); obtain ⟨m0, m1, m2, m3, g0, g1, g2, g3, gl⟩ := HT6.out; have p0 := (hb6'.cell (p := ⟨b, _, none⟩) hl4).trans c0; have p1 := (hb6'.cell (p := ⟨b, _, none⟩) hl4).trans c1; have p2 := (hb6'.cell (p := ⟨b, _, none⟩) hl4).trans c2; clear hb6 hb6')))
        all_goals
          go_wp2_with fail
          go_roundw
          case rel =>
            refine ⟨k + 1, by go_num, by omega, ?_, HBL4.out, ?_, ?_⟩
            · rw [HF.out]
              exact owns_set2 (owns_set2 (owns_set2 (owns_set2 (owns_below HO4.out HB6.out) HBL4.out) HBL4.out) HBL4.out) HBL4.out
            · exact Below.put4 (b := B) (HB4.out.trans (HB6.out.mono HB4.out.size)) (by omega) _ _ _ _
            · rw [Nat.min_eq_left (by omega), HNX.out]
              exact HT6.out.put Q
          case measure => simp [intOf]; omega
      · have hlast' : ¬ (k : Int) < (n : Int) := by omega
        go_wp2_with fail
        go_roundw
        case rel =>
          refine ⟨k + 1, by go_num, by omega, ?_, HBL4.out, HB4.out, ?_⟩
          · rw [HF.out]
            exact HO4.out
          · rw [show min (k + 1) n = k by omega, HMM.out]
            exact HT4.out
        case measure => simp [intOf]; omega
    · have he : k = n + 1 := by omega
      subst he
      have hlt' : ¬ (((n + 1 : Nat) : Int) ≤ (n : Int)) := by omega
      have HB := Lib.hid hb
      have HO := Lib.hid (ownsf hown)
      clear hb hown ht hbl
      go_wp2_with fail
      go_ret2
      exact ⟨_, rfl, HB.out, HO.out⟩

theorem specDrifts_no {n : Nat} {P : Nat → Pu} (hn : n ≤ 1048576) (hs : seqB n P = false) : GivesV 60 27 n P 0 (fun _ => .float .f32 0) 1 := by
  intro w b off cap _ h
  have HI := Lib.hid (l05Is_ok h hn)
  rw [hs] at HI
  clear h
  go_enter Try.func27, Try.ntmps27
  go_wp2_with fail
  refine HI.out.mono ?_
  rintro e w' ⟨rfl, rfl⟩
  go_wp2_with fail
  go_ret2
  exact ⟨_, rfl, Below.refl _ _, ownv_none _ _ _ _⟩

theorem givesv_congr {T : TypeId} {f : FuncId} {n m : Nat} {P : Nat → Pu} {F G : Nat → Value} {code : Int} (h : GivesV T f n P m F code) (e : ∀ i, i < m → F i = G i) : GivesV T f n P m G code := by
  intro w b off cap hc hR
  refine (h w b off cap hc hR).mono ?_
  rintro e' w' ⟨u, rfl, hb, ho⟩
  exact ⟨u, rfl, hb, ownv_congr ho e⟩

/-- The drifts: how many, which, and the code. -/
theorem specDrifts {n : Nat} {P : Nat → Pu} (hn : n ≤ 1048576) : GivesV 60 27 n P (if seqB n P then n + 1 else 0) (fun i => .float .f32 (driftF n P i)) (if seqB n P then 0 else 1) := by
  unfold driftF
  cases hs : seqB n P
  · exact specDrifts_no hn hs
  · have h60 : n ≤ 60 := by unfold seqB at hs; simp only [Bool.and_eq_true, decide_eq_true_eq] at hs; exact hs.2
    have hok : ∀ i, i < n → okP (P i) = true := by
      have := hs
      unfold seqB at this
      simp only [Bool.and_eq_true, List.all_eq_true, List.mem_range] at this
      exact this.1
    refine givesv_congr (specDrifts_yes h60 hs) (fun i hi => ?_)
    simp only [if_true] at hi
    rw [if_pos rfl, drift_both hok i (by omega) (by omega)]

theorem drift_num {t : Tb} {k : Nat} (h : TB k t) (hk : 2 * k + 3 ≤ 127) : driftI t < 4294967296 ∧ fin (driftI t) = true := by
  have qb := (q_bd h (by omega)).2
  have db := (detI_ok h (by omega)).2
  have l1 := (bd_less qb (bd_mono one_vl.2 (by omega)) (by omega)).2
  have l2 := (bd_less db.1 (bd_mono one_vl.2 (by omega)) (by omega)).2
  have b1 := l1.2
  have b2 := l2.2
  have b3 := db.2.2
  have hm : driftI t ≤ 2130706432 := by
    unfold driftI
    refine Nat.max_le.2 ⟨Nat.max_le.2 ⟨?_, ?_⟩, ?_⟩ <;> omega
  refine ⟨by omega, ?_⟩
  unfold fin mag
  exact decide_eq_true (by omega)

/-- The drifts are numbers. -/
theorem drift_fin {n : Nat} {P : Nat → Pu} (i : Nat) (hi : i < (if seqB n P then n + 1 else 0)) : driftF n P i < 4294967296 ∧ fin (driftF n P i) = true := by
  unfold driftF
  cases hs : seqB n P
  · rw [hs] at hi
    simp at hi
  · rw [hs, if_pos rfl] at hi
    have h60 : n ≤ 60 := by unfold seqB at hs; simp only [Bool.and_eq_true, decide_eq_true_eq] at hs; exact hs.2
    have hok : ∀ i, i < n → okP (P i) = true := by
      have := hs
      unfold seqB at this
      simp only [Bool.and_eq_true, List.all_eq_true, List.mem_range] at this
      exact this.1
    obtain ⟨_, _, h3⟩ := tabs_ok hok i (by omega) (by omega)
    rw [if_pos rfl]
    exact drift_num h3 (by omega)
end Go.Proofs.Ytmaohbddmafifaa
