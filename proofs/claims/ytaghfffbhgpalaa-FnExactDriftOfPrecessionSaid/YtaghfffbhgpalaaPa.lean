/- DriftOfPrecession of the specification. -/
import Derived.Test.YtaghfffbhgpalaaKbr
import Derived.Test.YtaghfffbhgpalaaKbs
import Derived.Test.YtaghfffbhgpalaaKbi
import Derived.Deep.AppendLies
import Derived.LoopTactic
namespace Go.Proofs.Ytaghfffbhgpalaa
open Go.RowKit

theorem stop_listP {P : Program} {ops : Array Oper} {Q : Exit → Act → World → Prop} {l : List Oper} {a : Act} {w : World} (h : Hid (wpList P ops Q l a w)) : wpList P ops Q l a w := h

theorem owns_belowP {w w' : World} {base n size : Nat} {e : TypeId} {v : Value} {xs : List Value} (h : w.ownsRow base e size v n xs) (hb : Below w.heap.size w w') : w'.ownsRow base e size v n xs := by
  obtain ⟨h1, ⟨rfl, rfl⟩ | ⟨g, cap, cur, rfl, hg, hk, hn, hm, hs, ht⟩⟩ := h
  · exact ⟨h1, .inl ⟨rfl, rfl⟩⟩
  · have hlt : g < w.heap.size := (Array.getElem?_eq_some_iff.1 hk).1
    exact ⟨h1, .inr ⟨g, cap, cur, rfl, hg, (hb.block g hlt).trans hk, hn, hm, hs, ht⟩⟩

theorem owns_setP {w : World} {base n size B i : Nat} {e : TypeId} {xs : List Value} {v u : Value} (h : w.ownsRow base e size v n xs) (hne : v.ownBlock ≠ some B) : (w.setCell ⟨B, i, none⟩ u).ownsRow base e size v n xs := by
  obtain ⟨h1, ⟨rfl, rfl⟩ | ⟨g, cap, cur, rfl, hg, hk, hn, hm, hs, ht⟩⟩ := h
  · exact ⟨h1, .inl ⟨rfl, rfl⟩⟩
  · have hgB : g ≠ B := by
      intro e
      exact hne (by rw [e]; rfl)
    exact ⟨h1, .inr ⟨g, cap, cur, rfl, hg, (Below.heap_setCell w ⟨B, i, none⟩ u g hgB).trans hk, hn, hm, hs, ht⟩⟩

theorem tc_grownP {W W' : World} {B : Nat} {t : Tb} {row : Option Nat} (h : TC W B t) (hg : W.grownBy W' row) (hne : some B ≠ row) : TC W' B t :=
  ⟨(hg.cell_far ⟨B, 0, none⟩ h.lt hne).trans h.c0, (hg.cell_far ⟨B, 1, none⟩ h.lt hne).trans h.c1, (hg.cell_far ⟨B, 2, none⟩ h.lt hne).trans h.c2, (hg.cell_far ⟨B, 3, none⟩ h.lt hne).trans h.c3,
   (hg.frozen_far ⟨B, 0, none⟩ h.lt hne).trans h.f0, (hg.frozen_far ⟨B, 1, none⟩ h.lt hne).trans h.f1, (hg.frozen_far ⟨B, 2, none⟩ h.lt hne).trans h.f2, (hg.frozen_far ⟨B, 3, none⟩ h.lt hne).trans h.f3, Nat.lt_of_lt_of_le h.lt hg.size⟩

theorem ne_grownP {W : World} {v v' : Value} {B N : Nat} {t : Tb} (hT : TC W B t) (hv : v.ownBlock ≠ some B) (hN : W.heap.size ≤ N) (h : v'.ownBlock = v.ownBlock ∨ v'.ownBlock = some N) : v'.ownBlock ≠ some B := by
  rcases h with e | e
  · rw [e]; exact hv
  · rw [e]
    intro e2
    injection e2 with e2
    have := hT.lt
    omega

def flP (F : Nat → Nat) (k : Nat) : List Value := (List.range k).map fun j => .float .f32 (F j)

theorem flP_next (F : Nat → Nat) (k : Nat) : flP F (k + 1) = flP F k ++ [.float .f32 (F k)] := by
  unfold flP
  rw [List.range_succ, List.map_append]
  rfl

theorem owns_P {w : World} {base m : Nat} {v : Value} {F : Nat → Nat} (h : w.ownsRow base 22 1 v m (flP F m)) : OwnV 22 w v m (fun i => .float .f32 (F i)) base w.heap.size := by
  obtain ⟨h1, ⟨rfl, rfl⟩ | ⟨g, cap, cur, rfl, hg, hb, hn, hm, hs, ht⟩⟩ := h
  · exact ⟨none, 0, rfl, Nat.le_refl _, fun h0 => absurd h0 (Nat.lt_irrefl _)⟩
  · refine ⟨_, cap, rfl, Nat.le_refl _, fun h0 => ⟨g, cap, fun j => (cur[j]?).getD undef, rfl, hg, (Array.getElem?_eq_some_iff.1 hb).1, hn, ⟨cur, hb, by omega, fun i hi => ?_⟩, fun i hi => ?_⟩⟩
    · simp only [Array.getElem?_eq_getElem (show i < cur.size by omega), Option.getD_some]
    · have e : (flP F m)[i]? = some (.float .f32 (F i)) := by unfold flP; simp [hi]
      rw [← ht, List.getElem?_take_of_lt (by omega), Array.getElem?_toList] at e
      simp only [e, Option.getD_some]

theorem own_nilP {w : World} {lo hi : Nat} {F : Nat → Value} (h : hi ≤ w.heap.size) : OwnV 22 w (.slice none 0 0) 0 F lo hi := ⟨none, 0, rfl, h, fun h0 => absurd h0 (Nat.lt_irrefl _)⟩

theorem infoF32P : (Try.prog.info? 22).map (fun i => (i.zero, i.size, i.bytes)) = some (some (.float .f32 0), 1, 4) := by kernel_rfl

theorem news_oneP {W : World} {H : Nat} {v0 : Value} (h0 : W.cell? ⟨H, 0, none⟩ = some v0) : ∀ j u, ([v0] : List Value)[j]? = some u → W.cell? ((⟨H, 0, none⟩ : Addr).add j) = some u := by
  intro j u hj
  match j, hj with
  | 0, hj => simp at hj; subst hj; simpa [Addr.add] using h0
  | j + 1, hj => simp at hj

theorem one_floatP {x : Nat} : ∀ u ∈ ([.float .f32 x] : List Value), u.oneCell' = true := by
  intro u hu
  simp at hu
  subst hu
  rfl

set_option maxRecDepth 100000 in
set_option maxHeartbeats 4000000 in
theorem specD_in {a b c h n : Nat} (ha : Num a) (hb : Num b) (hc : Num c) (hh : Num h) (n1 : 1 ≤ n) (n2 : n ≤ 300) (H : finO (qO a b c h) = true) :
    GivesD 11 a b c h n n (fun k => driftS (pwS (stepTb a b c h) k)) 0 := by
  intro w
  obtain ⟨nw, nx, ny, nz, hN⟩ := nrm_of ha hb hc hh H
  have hT6 := step_tb ha hb hc hh H
  have HV := Lib.hid (fun w => l09Is_any a b c w ha.1 hb.1 hc.1)
  have HF := Lib.hid (fun w => fine_any h w hh.1)
  rw [ha.2, hb.2, hc.2] at HV
  rw [hh.2] at HF
  simp only [Bool.and_self] at HV
  have HS : ∀ w, Calls Try.prog 23 #[.agg #[.float .f32 a, .float .f32 b, .float .f32 c], .float .f32 h] w fun e w' => e = .returned (.tuple #[(stepTb a b c h).v, .int .i64 0]) ∧ Below w.heap.size w w' := fun w => by
    have := l09Step_any ha hb hc hh w
    unfold stepIn at this
    rw [H] at this
    exact this
  rw [four] at HS
  have HD := Lib.hid (fun k (hk : k < n) w => by have := specDrift_ok (k := 59) (pw_ok hN hT6 k (by omega)).1 (by omega) w; rw [four] at this; exact this)
  have HM := Lib.hid (fun k (hk : k < n) w => by have := l03Times_ok (pw_ok hN hT6 k (by omega)).2 w; rw [four, four, four] at this; exact this)
  have HP : ∀ k, pwS (stepTb a b c h) (k + 1) = (stepTb a b c h).mul (pwS (stepTb a b c h) k) := fun _ => rfl
  have HP0 : pwS (stepTb a b c h) 0 = stepTb a b c h := rfl
  have HI := Lib.hid (fun w => in_any (n : Int) 1 300 w)
  have hd : decide ((1 : Int) ≤ (n : Int) ∧ (n : Int) ≤ 300) = true := decide_eq_true ⟨by omega, by omega⟩
  rw [hd] at HI
  clear ha hb hc hh H hN hT6 hd
  generalize stepTb a b c h = T at *
  have HSS := Lib.hid HS
  have HPP := Lib.hid HP
  have HP00 := Lib.hid HP0
  obtain ⟨ti, ti1, z1, z2, z3⟩ := info_parts infoF32P
  generalize hpw : pwS T = pw at *
  clear HS HP HP0 hpw
  go_enter Try.func11, Try.ntmps11
  go_wp2_with fail
  refine (HV.out _).mono ?_
  rintro e w1 ⟨rfl, hb1⟩
  have V1 := Lib.hid (show VF w1 w.heap.size a b c from VF.below ⟨by simp [go_sem], by simp [go_sem], by simp [go_sem], by simp⟩ hb1)
  have HB1 := Lib.hid (show Below w.heap.size w w1 from below_step hb1 ((Below.refl _ _).alloc (Nat.le_refl _) _) (by simp))
  clear hb1
  go_wp2_with fail
  refine (HF.out _).mono ?_
  rintro e w2 ⟨rfl, n3, rfl⟩
  go_wp2_with fail
  refine (HI.out _).mono ?_
  rintro e w2 ⟨rfl, rfl⟩
  obtain ⟨c0, c1, c2, hl⟩ := V1.out
  go_wp2_with fail
  refine (HSS.out _).mono ?_
  rintro e w3 ⟨rfl, hb3⟩
  have HB3 := Lib.hid (below_step hb3 (below_drewN HB1.out n3) (by have := HB1.out.size; simpa using this))
  clear hb3 c0 c1 c2 hl V1 HB1 HSS HV HF HI
  have hs3 : w.heap.size ≤ w3.heap.size := HB3.out.size
  have T0 := Lib.hid (TC.new w3 47 T)
  have B0 := Lib.hid (HB3.out.alloc hs3 (.cells #[.complex .f32 T.a.re T.a.im, .complex .f32 T.b.re T.b.im, .complex .f32 T.c.re T.c.im, .complex .f32 T.d.re T.d.im] 47))
  obtain ⟨t0, t1, t2, t3, _, _, _, _, _⟩ := T0.out
  go_wp2_with fail
  obtain ⟨W, hW⟩ : ∃ W, W = ((w3.alloc (.cells #[.complex .f32 T.a.re T.a.im, .complex .f32 T.b.re T.b.im, .complex .f32 T.c.re T.c.im, .complex .f32 T.d.re T.d.im] 47)).alloc (.cells #[] 22)).alloc (.cells #[.complex .f32 T.a.re T.a.im, .complex .f32 T.b.re T.b.im, .complex .f32 T.c.re T.c.im, .complex .f32 T.d.re T.d.im] 47) := ⟨_, rfl⟩
  have S1 := Lib.hid (show TC W w3.heap.size T by rw [hW]; exact (T0.out.alloc _).alloc _)
  have S2 := Lib.hid (show TC W (w3.heap.size + 1 + 1) (pw 0) by
    rw [HP00.out, hW]
    have := TC.new ((w3.alloc (.cells #[.complex .f32 T.a.re T.a.im, .complex .f32 T.b.re T.b.im, .complex .f32 T.c.re T.c.im, .complex .f32 T.d.re T.d.im] 47)).alloc (.cells #[] 22)) 47 T
    simpa using this)
  have SB := Lib.hid (show Below w.heap.size w W by rw [hW]; exact (B0.out.alloc B0.out.size _).alloc ((B0.out.alloc B0.out.size _).size) _)
  have SO := Lib.hid (show W.ownsRow w.heap.size 22 1 (.slice (some ⟨w3.heap.size + 1, 0, none⟩) 0 0) 0 [] by
    rw [hW]
    have := World.ownsRow_made (base := w.heap.size) (e := 22) (size := 1) (w3.alloc (.cells #[.complex .f32 T.a.re T.a.im, .complex .f32 T.b.re T.b.im, .complex .f32 T.c.re T.c.im, .complex .f32 T.d.re T.d.im] 47)) #[] 0 B0.out.size (Nat.zero_le _) rfl
    simpa using this.alloc (.cells #[.complex .f32 T.a.re T.a.im, .complex .f32 T.b.re T.b.im, .complex .f32 T.c.re T.c.im, .complex .f32 T.d.re T.d.im] 47))
  rw [← hW]
  clear hW T0 B0 HB3 t0 t1 t2 t3
  go_loopw [11, 12] (fun v i wr => ∃ k : Nat, i = .int .i64 k ∧ k ≤ n ∧ wr.ownsRow w.heap.size 22 1 v k (flP (fun k => driftS (pw k)) k) ∧ v.ownBlock ≠ some w3.heap.size ∧ v.ownBlock ≠ some (w3.heap.size + 1 + 1) ∧ TC wr w3.heap.size T ∧ TC wr (w3.heap.size + 1 + 1) (pw k) ∧ Below w.heap.size w wr) (fun _ i _ => n - (intOf i).toNat)
  case atStart => exact ⟨0, rfl, Nat.zero_le _, SO.out, by simp [Value.ownBlock], by simp [Value.ownBlock], S1.out, S2.out, SB.out⟩
  case round =>
    clear S1 S2 SB SO
    obtain ⟨k, rfl, hk, hown, hv1, hv2, hT1, hT2, hb⟩ := hrel
    by_cases hlt : k < n
    · have hlt' : (k : Int) < (n : Int) := by omega
      have HDk := Lib.hid (HD.out k hlt)
      have HMk := HM.out k hlt
      rw [← HPP.out k] at HMk
      have HMk := Lib.hid HMk
      have HL := Lib.hid (flP_next (fun k => driftS (pw k)) k)
      have HB := Lib.hid hb
      have HO := Lib.hid hown
      have HV1 := Lib.hid hv1
      have HV2 := Lib.hid hv2
      have HT1 := Lib.hid hT1
      have HT2 := Lib.hid hT2
      obtain ⟨e0, e1, e2, e3, _, _, _, _, el⟩ := hT2
      clear hb hown hT1 hv1 hv2 HD HM HPP HP00
      generalize driftS (pw k) = d at *
      go_wp2_with fail
      refine (HDk.out _).mono ?_
      rintro e w4 ⟨rfl, hb4⟩
      have HB4 := Lib.hid (HB.out.trans (hb4.mono HB.out.size))
      have HO4 := Lib.hid (owns_belowP HO.out hb4)
      have HT14 := Lib.hid (HT1.out.below hb4)
      have HT24 := Lib.hid (HT2.out.below hb4)
      have hsz : w.heap.size ≤ w4.heap.size := HB4.out.size
      clear hb4 e0 e1 e2 e3 el HB HO HT1 HT2
      go_wp2_with (at_builtin; refine stop_listP ?_)
      unfold Hid
      refine wpList_append_own_at _ rfl _ _ 32 rfl w.heap.size 22 ti _ 1 4 Try.underlying32 ti1 z1 z2 z3 rfl (by decide) _ k _ rfl (by exact HO4.out.alloc _) ⟨w4.heap.size, 0, none⟩ 1 _ [.float .f32 d] rfl rfl (news_oneP (by simp [go_sem])) one_floatP (by unfold maxLen; omega) (by omega) (by simp; omega) ?_
      intro v5 w5 hown hgrow hnil hblk
      have HO5 := Lib.hid hown
      have HB5 := Lib.hid (Below.grown (a := w) (by exact HB4.out.alloc hsz _) hgrow (by simp; omega) (by intro g hg; exact (World.ownsRow.lt HO4.out g hg).1))
      have HT15 := Lib.hid (tc_grownP (HT14.out.alloc _) hgrow (fun e => HV1.out e.symm))
      have HT25 := Lib.hid (tc_grownP (HT24.out.alloc _) hgrow (fun e => HV2.out e.symm))
      have HV15 := Lib.hid (ne_grownP HT14.out HV1.out (by simp) hblk)
      have HV25 := Lib.hid (ne_grownP HT24.out HV2.out (by simp) hblk)
      clear hown hgrow hnil hblk HB4 HO4 HT14 HT24 HV1 HV2
      obtain ⟨f0, f1, f2, f3, _, _, _, _, fl⟩ := HT15.out
      obtain ⟨g0, g1, g2, g3, _, _, _, _, gl⟩ := HT25.out
      go_wp2_with fail
      refine (HMk.out _).mono ?_
      rintro e w6 ⟨rfl, hb6⟩
      have HB6 := Lib.hid (HB5.out.trans (hb6.mono HB5.out.size))
      have HO6 := Lib.hid (owns_belowP HO5.out hb6)
      have HT16 := Lib.hid (HT15.out.below hb6)
      have HT26 := Lib.hid (HT25.out.below hb6)
      clear hb6 f0 f1 f2 f3 fl g0 g1 g2 g3 gl HB5 HO5 HT15 HT25
      obtain ⟨m0, m1, m2, m3, h0, h1, h2, h3, gl⟩ := HT26.out
      go_wp2_with fail
      go_roundw
      case rel =>
        refine ⟨k + 1, by go_num, by omega, ?_, HV15.out, HV25.out, tc_far HT16.out (by omega) _ _ _ _, HT26.out.put (pw (k + 1)), Below.put4 HB6.out (by omega) _ _ _ _⟩
        rw [HL.out]
        exact owns_setP (owns_setP (owns_setP (owns_setP HO6.out HV25.out) HV25.out) HV25.out) HV25.out
      case measure => simp [intOf]; omega
    · have he : k = n := by omega
      subst he
      have hlt' : ¬ ((k : Int) < (k : Int)) := by omega
      have HB := Lib.hid hb
      have HO := Lib.hid (owns_P hown)
      clear hb hown hv1 hv2 hT1 hT2 HD HM HPP HP00
      go_wp2_with fail
      go_ret2
      exact ⟨_, rfl, HB.out, HO.out⟩

end Go.Proofs.Ytaghfffbhgpalaa
