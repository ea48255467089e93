/- Walks: ParseSequence of the program. -/
import Derived.Test.YtojcdhnpdinbpaaGreatDoorRw
namespace Go.Proofs.YtojcdhnpdinbpaaGreatDoor
open Go.RowKit

def Vars (w : World) : Prop := ErrVars w ∧ ∃ m, w.cell? ⟨1, 0, none⟩ = some (.int .i64 m)
theorem Vars.below {w w' : World} (h : Vars w) (hb : Below w.heap.size w w') : Vars w' := by
  obtain ⟨h1, m, hm⟩ := h
  exact ⟨h1.below hb, m, (hb.cell (p := ⟨1, 0, none⟩) (World.block_lt_of_cell? w _ hm)).trans hm⟩

/-- What a function from texts to lists of pulses and codes hands back, where the library's variables hold what they should. -/
def ReadsV (f : FuncId) (s : ByteArray) : Prop :=
  ∀ (w : World), Vars w → Calls Tryz.prog f #[.string s] w fun e w' => ∃ u, e = .returned (.tuple #[u, .int .i64 (cRead s.data.toList)]) ∧ Below w.heap.size w w' ∧ Own w' u (nRead s.data.toList) (PW s.data.toList) w.heap.size w'.heap.size

/-- strings.Split at a blank: the words, in a block of their own. -/
theorem split_blank (s : ByteArray) (hmax : s.size ≤ 4294967000) (w : World) (hV : Vars w) :
    Calls Tryz.prog 34 #[.string s, .string ⟨#[32]⟩] w fun e w' => e = .returned (.slice (some ⟨w.heap.size, 0, none⟩) (wds [] s.data.toList).length (wds [] s.data.toList).length) ∧ Below w.heap.size w w' ∧ w.heap.size < w'.heap.size ∧ ∀ j, j < (wds [] s.data.toList).length → w'.cell? ⟨w.heap.size, j, none⟩ = some (str ((wds [] s.data.toList).getD j [])) := by
  obtain ⟨_, m, hm⟩ := hV
  have hd : (Lib.splitB ⟨#[32]⟩ 0 (Lib.countB s ⟨#[32]⟩) s).map (·.data.toList) = wds [] s.data.toList := by
    rw [Lib.splitB_data]
    exact split_wds _
  have hl : Lib.countB s ⟨#[32]⟩ + 1 = (wds [] s.data.toList).length := by
    rw [← hd, List.length_map]
    exact (Lib.splitB_all ⟨#[32]⟩ (by decide) 0 _ s rfl).symm
  refine (Tryz.strings_Split s ⟨#[32]⟩ m w (by omega) hm (by decide)).mono ?_
  rintro e w' ⟨rfl, rfl⟩
  rw [hl]
  refine ⟨rfl, (Below.refl _ _).alloc (Nat.le_refl _) _, by simp, fun j hj => ?_⟩
  rw [← hd] at hj ⊢
  rw [List.length_map] at hj
  generalize Lib.splitB ⟨#[32]⟩ 0 (Lib.countB s ⟨#[32]⟩) s = L at *
  simp [go_sem, hj, str]

theorem owns_len {w : World} {base : Nat} {e : TypeId} {size : Nat} {v : Value} {n : Nat} {xs : List Value} (h : w.ownsRow base e size v n xs) : ∃ a cap, v = .slice a n cap := by
  obtain ⟨_, ⟨h1, h0⟩ | ⟨g, cap, cur, rfl, _⟩⟩ := h
  · exact ⟨_, _, by rw [h1, h0]⟩
  · exact ⟨_, _, rfl⟩

set_option maxHeartbeats 4000000 in
set_option maxRecDepth 100000 in
theorem implRead_some (s : ByteArray) (hmax : s.size ≤ 4294967000) (h0 : s.data.toList ≠ []) : ReadsV 10 s := by
  intro w hV
  obtain ⟨D, hD⟩ : ∃ D, D = s.data.toList := ⟨_, rfl⟩
  have HS := Lib.hid (fun w hV => split_blank s hmax w hV)
  rw [← hD] at h0 HS ⊢
  have hne : (s.toList == ([] : List UInt8)) = false := by
    rw [ByteArray.toList_eq, ← hD, beq_eq_false_iff_ne]; exact h0
  have hne2 : s.toList.isEmpty = false := by
    rw [ByteArray.toList_eq, ← hD]
    cases D with
    | nil => exact absurd rfl h0
    | cons _ _ => rfl
  have HNo : Hid (wordsB D = false → cRead D = 6 ∧ nRead D = 0) := Lib.hid fun h => by
    unfold cRead goodB nRead
    rw [h, decide_eq_false h0, if_neg h0]
    exact ⟨rfl, rfl⟩
  have HYes : Hid (wordsB D = true → cRead D = 0 ∧ nRead D = (wds [] D).length) := Lib.hid fun h => by
    unfold cRead goodB nRead
    rw [h, if_neg h0, Bool.or_true]
    exact ⟨rfl, rfl⟩
  have HSz : Hid (∀ j, j < (wds [] D).length → ((wds [] D).getD j []).length ≤ 4294967000) := Lib.hid fun j hj => by
    have hm : (wds [] D).getD j [] ∈ wds [] D := by
      rw [List.getD_eq_getElem?_getD, List.getElem?_eq_getElem hj]; exact List.getElem_mem hj
    have := wds_size [] D _ hm
    rw [hD, Lib.size_eq] at *
    simp only [List.length_nil] at this
    omega
  have HLast : Hid (∀ k, k < (wds [] D).length → pread ((wds [] D).getD k []) = none → wordsB D = false) := Lib.hid fun k hk h => word_bad (by omega) h
  have HMany : Hid (60 < (wds [] D).length → wordsB D = false) := Lib.hid fun h => words_many (by omega)
  have HEnd : Hid ((wds [] D).length ≤ 60 → (∀ j, j < (wds [] D).length → pread ((wds [] D).getD j []) ≠ none) → wordsB D = true) := Lib.hid fun h h' => words_good (fun j hj => h' j (by omega)) (by omega)
  have hlen : (wds [] D).length ≤ 4294967001 := by
    have := wds_len [] D
    rw [hD] at *
    rw [Lib.size_eq] at hmax
    omega
  have HV := Lib.hid hV
  obtain ⟨ti, ti1, z1, z2, z3⟩ := info_parts infoPulse
  clear hD h0 hmax hV
  go_enter Tryz.func10, Tryz.ntmps10
  go_wp2_with fail
  refine (HS.out _ HV.out).mono ?_
  rintro e w1 ⟨rfl, hb1, hg, hcell⟩
  have HC := Lib.hid hcell
  have HB1 := Lib.hid hb1
  obtain ⟨n, hn⟩ : ∃ n, n = (wds [] D).length := ⟨_, rfl⟩
  rw [← hn] at HC HYes HSz HLast HMany HEnd hlen ⊢
  clear hcell hb1 hn
  have hown0 : w1.ownsRow (w.heap.size + 1) 43 3 (.slice none 0 0) 0 (cellsL ((List.range 0).map (PW D))) := ⟨rfl, .inl ⟨rfl, rfl⟩⟩
  have HO0 := Lib.hid hown0
  clear hown0
  go_wp2_with fail
  go_loopw [4, 14] (fun v' i wr => ∃ k : Nat, i = .int .i64 k ∧ k ≤ n ∧ k ≤ 60 ∧ wr.ownsRow (w.heap.size + 1) 43 3 v' k (cellsL ((List.range k).map (PW D))) ∧ Below w.heap.size w wr ∧ Below (w.heap.size + 1) w1 wr ∧ Hid (∀ j, j < k → pread ((wds [] D).getD j []) ≠ none)) (fun _ i _ => n - (intOf i).toNat)
  case atStart => exact ⟨0, rfl, Nat.zero_le _, Nat.zero_le _, HO0.out, HB1.out, Below.refl _ _, Lib.hid fun j hj => absurd hj (Nat.not_lt_zero _)⟩
  case round =>
    obtain ⟨k, rfl, hk, hk60, hown, hb, hbw, hall⟩ := hrel
    by_cases hlt : k < n
    · have hlt' : (k : Int) < (n : Int) := by omega
      have hcw := (hbw.cell (p := ⟨w.heap.size, k, none⟩) (Nat.lt_succ_self _)).trans (HC.out k hlt)
      have hsz := hb.size
      have hsz2 : w.heap.size < wr.heap.size := Nat.lt_of_lt_of_le hg hbw.size
      have HLk : Hid (pread ((wds [] D).getD k []) = none → cRead D = 6 ∧ nRead D = 0) := Lib.hid fun h => HNo.out (HLast.out k hlt h)
      have HMk : Hid (k = 60 → cRead D = 6 ∧ nRead D = 0) := Lib.hid fun h => HNo.out (HMany.out (by omega))
      have hxs := HSz.out k hlt
      have HPW : Hid (PW D k = (pread ((wds [] D).getD k [])).getD noPu) := Lib.hid rfl
      have HNx : Hid (∀ j, j < k + 1 → j ≠ k → pread ((wds [] D).getD j []) ≠ none) := Lib.hid fun j hj hne => hall.out j (by omega)
      generalize hX : (wds [] D).getD k [] = X at hcw HLk hxs HPW
      obtain ⟨q, hq, hqd, hqs⟩ := bytes_of X
      rw [hq] at hcw
      have HPP := Lib.hid (fun w hV => parsePulse_any q (by omega) w hV)
      rw [hqd] at HPP
      have HB := Lib.hid hb
      have HBW := Lib.hid hbw
      have HO := Lib.hid hown
      have HXk := Lib.hid hX
      have HVr := Lib.hid (HV.out.below hb)
      clear hb hbw hown hX hq hqd hqs hxs hall HC HO0
      cases hp : pread X with
      | none =>
        rw [hp] at HPP
        obtain ⟨e1, e2⟩ := HLk.out hp
        have HE1 := Lib.hid e1
        have HE2 := Lib.hid e2
        clear e1 e2
        unfold pulseRes noPu Pu.v at HPP
        go_wp2_with fail
        refine (HPP.out _ HVr.out.1).mono ?_
        rintro e w2 ⟨rfl, hb2⟩
        have HB2 := Lib.hid (HB.out.trans (hb2.mono hsz))
        clear hb2
        go_wp2_with fail
        go_ret2
        exact ⟨_, by rw [HE1.out]; rfl, HB2.out.alloc HB2.out.size _, by rw [HE2.out]; exact own_none _ _ _⟩
      | some p =>
        rw [hp] at HPP HPW
        have HPW2 : Hid (PW D k = p) := Lib.hid HPW.out
        have HNe : Hid (∀ j, j < k + 1 → pread ((wds [] D).getD j []) ≠ none) := Lib.hid fun j hj => by
          by_cases hjk : j = k
          · subst hjk; rw [HXk.out, hp]; simp
          · exact HNx.out j hj hjk
        unfold pulseRes Pu.v at HPP
        simp only [Option.getD_some, Option.isSome_some, if_true] at HPP
        obtain ⟨a, cap, hu⟩ := owns_len HO.out
        subst hu
        by_cases h60 : k = 60
        · obtain ⟨e1, e2⟩ := HMk.out h60
          have HE1 := Lib.hid e1
          have HE2 := Lib.hid e2
          have hd60 : ((k : Int) == 60) = true := by rw [beq_iff_eq]; omega
          clear e1 e2 h60
          go_wp2_with fail
          refine (HPP.out _ HVr.out.1).mono ?_
          rintro e w2 ⟨rfl, hb2⟩
          have HB2 := Lib.hid (HB.out.trans (hb2.mono hsz))
          clear hb2
          go_wp2_with fail
          go_ret2
          exact ⟨_, by rw [HE1.out]; rfl, HB2.out.alloc HB2.out.size _, by rw [HE2.out]; exact own_none _ _ _⟩
        · have hd60 : ((k : Int) == 60) = false := by rw [beq_eq_false_iff_ne]; omega
          go_wp2_with fail
          refine (HPP.out _ HVr.out.1).mono ?_
          rintro e w2 ⟨rfl, hb2⟩
          have HB2 := Lib.hid (HB.out.trans (hb2.mono hsz))
          have HBW2 := Lib.hid (HBW.out.trans (hb2.mono (by omega)))
          have HO2 := Lib.hid (owns_below HO.out hb2)
          have hsz3 := hb2.size
          clear hb2
          go_wp2_with (at_builtin; refine stop_list ?_)
          unfold Hid
          refine wpList_append_own_at _ rfl _ _ 24 rfl (w.heap.size + 1) 43 ti _ 3 24 Tryz.underlying24 ti1 z1 z2 z3 rfl (by decide) _ k _ rfl (by exact (HO2.out.alloc _).alloc _) ⟨w2.heap.size + 1, 0, none⟩ 1 1 [.int .i64 p.ax, .int .i64 p.ha, .bool p.bk] (by simp [go_sem]) rfl (news_three (by simp [go_sem]) (by simp [go_sem]) (by simp [go_sem])) (one_three (p := p)) (by unfold maxLen; omega) (by omega) (by simp; omega) ?_
          intro v3 w3 hown hgrow hnil hblk
          have HO3 := Lib.hid hown
          have HB3 := Lib.hid (Below.grown (a := w) (by exact Below.alloc_own (Below.alloc_own HB2.out _) _) hgrow (by simp; omega) (by intro j hj; have := (World.ownsRow.lt HO2.out j hj).1; omega))
          have HBW3 := Lib.hid (Below.grown (a := w1) ((HBW2.out.alloc (by omega) _).alloc (by simp; omega) _) hgrow (by simp; omega) (by intro j hj; exact (World.ownsRow.lt HO2.out j hj).1))
          clear hown hgrow hnil hblk
          go_wp2_with fail
          go_roundw
          case rel =>
            refine ⟨k + 1, by go_num, by omega, by omega, ?_, HB3.out, HBW3.out, HNe⟩
            rw [cellsL_next, HPW2.out]
            exact HO3.out
          case measure => simp [intOf]; omega
    · have he : k = n := by omega
      subst he
      have hlt' : ¬ ((k : Int) < (k : Int)) := by omega
      obtain ⟨e1, e2⟩ := HYes.out (HEnd.out hk60 hall.out)
      have HE1 := Lib.hid e1
      have HE2 := Lib.hid e2
      have HB := Lib.hid hb
      have HO := Lib.hid (own_wide (lo' := w.heap.size) (own_congr (owns_own hown (by simp)) (Q := PW D) (fun i hi => by simp [hi])) (Nat.le_succ _))
      clear e1 e2 hb hown hbw hall
      go_wp2_with fail
      go_ret2
      refine ⟨_, by rw [HE1.out]; rfl, HB.out, ?_⟩
      rw [HE2.out]
      exact HO.out

set_option maxRecDepth 100000 in
theorem implRead_none (s : ByteArray) (hD : s.data.toList = []) : ReadsV 10 s := by
  intro w _
  have he : (s.toList == ([] : List UInt8)) = true := by rw [ByteArray.toList_eq, hD]; rfl
  have he2 : s.toList.isEmpty = true := by rw [ByteArray.toList_eq, hD]; rfl
  rw [hD]
  clear hD
  go_enter Tryz.func10, Tryz.ntmps10
  go_wp2_with fail
  go_ret2
  exact ⟨_, rfl, Below.refl _ _, own_none _ _ _⟩

theorem implRead (s : ByteArray) (hmax : s.size ≤ 4294967000) : ReadsV 10 s := by
  by_cases h0 : s.data.toList = []
  · exact implRead_none s h0
  · exact implRead_some s hmax h0
end Go.Proofs.YtojcdhnpdinbpaaGreatDoor
