/- Walks: ParseSequence of the specification. -/
import Derived.Test.YtojcdhnpdinbpaaGreatDoorIw
import Derived.Test.YtojcdhnpdinbpaaGreatDoorSw
namespace Go.Proofs.YtojcdhnpdinbpaaGreatDoor
open Go.RowKit

def RsPost (w : World) (l : List UInt8) (b : Bool) (e : Ending) (w' : World) : Prop := ∃ u, e = .returned (.tuple #[u, .bool b]) ∧ Below w.heap.size w w' ∧ Own w' u (nRead l) (PW l) w.heap.size w'.heap.size

/-- The word with or without a sign. -/
theorem sgn_split (l : List UInt8) : ∃ bk r, l = wsgn bk r ∧ (bk = false → ∀ d, r ≠ 45 :: d) := by
  by_cases h : ∃ d, l = 45 :: d
  · obtain ⟨d, rfl⟩ := h
    exact ⟨true, d, rfl, fun h => by cases h⟩
  · exact ⟨false, l, rfl, fun _ d e => h ⟨d, e⟩⟩

theorem bytes_of (l : List UInt8) : ∃ q : ByteArray, str l = .string q ∧ q.data.toList = l ∧ q.size = l.length := ⟨⟨l.toArray⟩, rfl, rfl, rfl⟩

theorem head_at {q : ByteArray} {c : UInt8} {r : List UInt8} (h : q.data.toList = c :: r) : ∃ hp : 0 < q.size, q[0]'hp = c := by
  have hs : q.size = r.length + 1 := by rw [Lib.size_eq, h]; rfl
  refine ⟨by omega, ?_⟩
  rw [Lib.getD_at q 0 (by omega), h]; rfl

theorem tail_one {q : ByteArray} {c : UInt8} {r : List UInt8} (h : q.data.toList = c :: r) : ∃ t : ByteArray, t.data.toList = r ∧ t.size = r.length ∧ ∀ W, (Instr.slice 9 (.string q) (some (.int .i64 1)) none none).run Tryz.prog W = .ok (.string t) W := by
  have hs : q.size = r.length + 1 := by rw [Lib.size_eq, h]; rfl
  have h1 : (q.extract 1 q.size).data.toList = r := by
    rw [Lib.extract_data, h, List.drop_succ_cons, List.drop_zero, List.take_of_length_le (by omega)]
  refine ⟨_, h1, by rw [Lib.size_eq, h1], fun W => ?_⟩
  rw [run_slice_string_from_if W 9 q .i64 _ Tryz.underlying9, if_pos ⟨by omega, by omega⟩]
  rfl

theorem plain_add (b o i : Nat) : (⟨b, o, none⟩ : Addr).add i = ⟨b, o + i, none⟩ := by
  unfold Addr.add
  split
  · simp_all
  · rfl

theorem words_of {w : World} {base : Nat} {v : Value} {l : List (List UInt8)} (h : w.ownsRow base 9 1 v l.length (l.map str)) (h1 : 1 ≤ l.length) :
    ∃ g cap, v = .slice (some ⟨g, 0, none⟩) l.length cap ∧ base ≤ g ∧ g < w.heap.size ∧ ∀ j, j < l.length → w.cell? ⟨g, j, none⟩ = some (str (l.getD j [])) := by
  have hc := fun g hg => World.ownsRow.cells h (g := g) hg
  have hb := fun g hg => (World.ownsRow.lt h g hg)
  obtain ⟨_, ⟨_, h0⟩ | ⟨g, cap, cur, rfl, _⟩⟩ := h
  · exact absurd h0 (by omega)
  · refine ⟨g, cap, rfl, (hb g rfl).1, (hb g rfl).2, fun j hj => ?_⟩
    have := hc g rfl j (str (l.getD j [])) (by rw [List.getElem?_map, List.getElem?_eq_getElem hj, List.getD_eq_getElem?_getD, List.getElem?_eq_getElem hj]; rfl)
    rw [plain_add, Nat.zero_add] at this
    exact this

theorem cell_same {w w' : World} {g j : Nat} {v : Value} (h : w'.heap[g]? = w.heap[g]?) (hc : w.cell? ⟨g, j, none⟩ = some v) : w'.cell? ⟨g, j, none⟩ = some v := (World.cell?_of_block (a := ⟨g, j, none⟩) h).trans hc

theorem own_none (w : World) (P : Nat → Pu) (lo : Nat) : Own w (.slice none 0 0) 0 P lo w.heap.size := ⟨none, 0, rfl, Nat.le_refl _, fun h0 => absurd h0 (Nat.lt_irrefl _)⟩

set_option maxHeartbeats 4000000 in
set_option maxRecDepth 100000 in
theorem l05Read_none (s : ByteArray) (hD : s.data.toList = []) (w : World) :
    Calls Tryz.prog 44 #[.string s] w (RsPost w [] true) := by
  have he : (s.toList == ([] : List UInt8)) = true := by rw [ByteArray.toList_eq, hD]; rfl
  have he2 : s.toList.isEmpty = true := by rw [ByteArray.toList_eq, hD]; rfl
  clear hD
  go_enter Tryz.func44, Tryz.ntmps44
  go_wp2_with fail
  go_ret2
  exact ⟨_, rfl, (Below.refl _ _).alloc (Nat.le_refl _) _, ⟨_, _, rfl, Nat.le_refl _, fun h0 => absurd h0 (Nat.lt_irrefl _)⟩⟩

set_option maxHeartbeats 16000000 in
set_option maxRecDepth 100000 in
theorem l05Read_some (s : ByteArray) (hmax : s.size ≤ 4294967000) (h0 : s.data.toList ≠ []) (w : World) :
    Calls Tryz.prog 44 #[.string s] w (RsPost w s.data.toList (goodB s.data.toList)) := by
  obtain ⟨D, hD⟩ : ∃ D, D = s.data.toList := ⟨_, rfl⟩
  rw [← hD] at h0 ⊢
  have hlen : D.length = s.size := by rw [hD, Lib.size_eq]
  have hne : (s.toList == ([] : List UInt8)) = false := by
    rw [ByteArray.toList_eq, ← hD, beq_eq_false_iff_ne]; exact h0
  have hne2 : s.toList.isEmpty = false := by
    rw [ByteArray.toList_eq, ← hD]
    cases D with
    | nil => exact absurd rfl h0
    | cons _ _ => rfl
  have HNo : Hid (wordsB D = false → goodB D = false ∧ nRead D = 0) := Lib.hid fun h => by
    unfold goodB nRead
    rw [h, decide_eq_false h0, if_neg h0]
    exact ⟨rfl, rfl⟩
  have HYes : Hid (wordsB D = true → goodB D = true ∧ nRead D = (wds [] D).length) := Lib.hid fun h => by
    unfold goodB nRead
    rw [h, if_neg h0]
    exact ⟨by rw [Bool.or_true], rfl⟩
  have HS := Lib.hid (fun w => split_any s hmax w)
  rw [← hD] at HS
  have hpos : 1 ≤ (wds [] D).length := wds_pos [] D
  obtain ⟨ti, ti1, z1, z2, z3⟩ := info_parts infoPulse
  clear hD h0 hmax
  go_enter Tryz.func44, Tryz.ntmps44
  go_wp2_with fail
  refine (HS.out _).mono ?_
  rintro e w1 ⟨v1, rfl, hown, hb1⟩
  obtain ⟨g, cap, rfl, hg1, hg2, hcell⟩ := words_of hown hpos
  have hsz1 : w.heap.size + 1 ≤ w1.heap.size := by have := hb1.size; simpa using this
  have hg1' : w.heap.size < g := by simp at hg1; omega
  have HB1 : Hid (Below w.heap.size w w1) := Lib.hid (((Below.refl w.heap.size w).alloc (Nat.le_refl _) _).trans (hb1.mono (by simp)))
  have hown0 : w1.ownsRow w.heap.size 43 3 (.slice (some ⟨w.heap.size, 0, none⟩) 0 0) 0 (cellsL ((List.range 0).map (PW D))) := by
    refine owns_below (World.ownsRow_made w #[] 0 (Nat.le_refl _) (by unfold maxLen; omega) rfl) hb1
  have HC := Lib.hid hcell
  have HO0 := Lib.hid hown0
  obtain ⟨n, hn⟩ : ∃ n, n = (wds [] D).length := ⟨_, rfl⟩
  have HLast : Hid (∀ k, k < n → pread ((wds [] D).getD k []) = none → wordsB D = false) := Lib.hid fun k hk h => word_bad (by omega) h
  have HMany : Hid (60 < n → wordsB D = false) := Lib.hid fun h => words_many (by omega)
  have HEnd : Hid (n ≤ 60 → (∀ j, j < n → pread ((wds [] D).getD j []) ≠ none) → wordsB D = true) := Lib.hid fun h h' => words_good (fun j hj => h' j (by omega)) (by omega)
  rw [← hn] at HC HYes hpos ⊢
  clear hb1 hown hcell hg1 hown0
  by_cases h60 : (60 : Int) < (n : Int)
  · obtain ⟨e1, e2⟩ := HNo.out (HMany.out (by omega))
    have HE1 := Lib.hid e1
    have HE2 := Lib.hid e2
    clear e1 e2
    go_wp2_with fail
    go_ret2
    exact ⟨_, by rw [HE1.out]; rfl, HB1.out, by rw [HE2.out]; exact own_none _ _ _⟩
  · clear hn
    have hn60 : n ≤ 60 := by omega
    go_wp2_with fail
    go_loopw [4, 6] (fun v' i wr => ∃ k : Nat, i = .int .i64 k ∧ k ≤ n ∧ wr.ownsRow w.heap.size 43 3 v' k (cellsL ((List.range k).map (PW D))) ∧ v'.ownBlock ≠ some g ∧ Below w.heap.size w wr ∧ wr.heap[g]? = w1.heap[g]? ∧ g < wr.heap.size ∧ Hid (∀ j, j < k → pread ((wds [] D).getD j []) ≠ none)) (fun _ i _ => n - (intOf i).toNat)
    case atStart => exact ⟨0, rfl, Nat.zero_le _, HO0.out, by show some w.heap.size ≠ some g; intro h; have := Option.some.inj h; omega, HB1.out, rfl, hg2, Lib.hid fun j hj => absurd hj (Nat.not_lt_zero _)⟩
    case round =>
      obtain ⟨k, rfl, hk, hown, hob, hb, hgh, hgs, hall⟩ := hrel
      by_cases hlt : k < n
      · have hlt' : (k : Int) < (n : Int) := by omega
        have hcw := cell_same hgh (HC.out k hlt)
        have hsz := hb.size
        obtain ⟨x, hx⟩ : ∃ x, x = (wds [] D).getD k [] := ⟨_, rfl⟩
        rw [← hx] at hcw
        obtain ⟨q, hq, hqd, hqs⟩ := bytes_of x
        rw [hq] at hcw
        obtain ⟨bk, r, hxr, hbk⟩ := sgn_split x
        have hpr := pread_srd hbk
        rw [← hxr, hx] at hpr
        have HLk : Hid (srd bk r = none → goodB D = false ∧ nRead D = 0) := Lib.hid fun h => HNo.out (HLast.out k hlt (hpr.trans h))
        have HPk := Lib.hid hpr
        have HB := Lib.hid hb
        have HO := Lib.hid hown
        have HOB := Lib.hid hob
        have HGH := Lib.hid hgh
        clear hb hown hgh hob hx hq hpr HB1 HO0 HC HMany HEnd HYes HNo HLast
        cases bk
        · replace hxr : x = r := hxr
          subst hxr
          cases x with
          | nil =>
            have hq0 : ¬ (0 : Int) < (q.size : Int) := by rw [hqs]; simp
            have hq2 : (q.size : Int) < 2 := by rw [hqs]; simp
            obtain ⟨e1, e2⟩ := HLk.out rfl
            clear hbk hqd hqs
            have HE1 := Lib.hid e1
            have HE2 := Lib.hid e2
            clear e1 e2
            go_wp2_with fail
            go_ret2
            exact ⟨_, by rw [HE1.out]; rfl, (HB.out.alloc hsz _), by rw [HE2.out]; exact own_none _ _ _⟩
          | cons c d =>
            obtain ⟨hp, hc0⟩ := head_at hqd
            have hq0 : (0 : Int) < (q.size : Int) := by omega
            have hc45 : ((c.toNat : Int) == 45) = false := by
              rw [beq_eq_false_iff_ne]
              intro h
              exact hbk rfl d (by rw [show c = 45 from UInt8.toNat_inj.1 (by show c.toNat = 45; omega)])
            obtain ⟨u, hud, hus, hsl⟩ := tail_one hqd
            clear hbk
            by_cases h2 : (q.size : Int) < 2
            · obtain ⟨e1, e2⟩ := HLk.out (by
                have : d = [] := by
                  have : d.length = 0 := by rw [hqs] at h2; simp only [List.length_cons] at h2; omega
                  exact List.length_eq_zero_iff.1 this
                subst this
                rw [srd_cons, if_neg]
                rintro ⟨_, _, h, _⟩
                exact absurd h (by decide))
              clear hud hus hqd hqs
              have HE1 := Lib.hid e1
              have HE2 := Lib.hid e2
              clear e1 e2
              go_wp2_with fail
              go_ret2
              exact ⟨_, by rw [HE1.out]; rfl, by first | exact HB.out.alloc hsz _ | exact (HB.out.alloc hsz _).setCell hsz _, by rw [HE2.out]; exact own_none _ _ _⟩
            · clear hqs hqd
              by_cases hA : c.toNat < 120
              · obtain ⟨e1, e2⟩ := HLk.out (by rw [srd_cons, if_neg (by omega)])
                have hA' : (c.toNat : Int) < 120 := by omega
                clear hud hus hA
                have HE1 := Lib.hid e1
                have HE2 := Lib.hid e2
                clear e1 e2
                go_wp2_with fail
                go_ret2
                exact ⟨_, by rw [HE1.out]; rfl, by first | exact HB.out.alloc hsz _ | exact (HB.out.alloc hsz _).setCell hsz _, by rw [HE2.out]; exact own_none _ _ _⟩
              · by_cases hZ : 122 < c.toNat
                · obtain ⟨e1, e2⟩ := HLk.out (by rw [srd_cons, if_neg (by omega)])
                  have hA' : ¬ (c.toNat : Int) < 120 := by omega
                  have hZ' : (122 : Int) < (c.toNat : Int) := by omega
                  clear hud hus hA hZ
                  have HE1 := Lib.hid e1
                  have HE2 := Lib.hid e2
                  clear e1 e2
                  go_wp2_with fail
                  go_ret2
                  exact ⟨_, by rw [HE1.out]; rfl, by first | exact HB.out.alloc hsz _ | exact (HB.out.alloc hsz _).setCell hsz _, by rw [HE2.out]; exact own_none _ _ _⟩
                · have hA' : ¬ (c.toNat : Int) < 120 := by omega
                  have hZ' : ¬ (122 : Int) < (c.toNat : Int) := by omega
                  have HNum := Lib.hid (fun w => dec_number u w)
                  rw [hud] at HNum
                  have HIn := Lib.hid (fun w => in_any (num d) 0 24 w)
                  have hca : 120 ≤ c.toNat ∧ c.toNat ≤ 122 := by omega
                  clear hud hus hA hZ
                  by_cases hin : 0 ≤ num d ∧ num d ≤ 24
                  · rw [decide_eq_true hin] at HIn
                    have hp1 := HPk.out
                    rw [srd_cons, if_pos ⟨hca.1, hca.2, hin.1, hin.2⟩] at hp1
                    have HP1 := Lib.hid hp1
                    clear hp1 HPk HLk
                    generalize num d = y at *
                    have hc0' : (0 : Int) ≤ (c.toNat : Int) - 120 := by omega
                    have hc1' : (c.toNat : Int) - 120 ≤ 2 := by omega
                    have HXX : Hid (PW D k = ⟨(c.toNat : Int) - 120, y, false⟩ ∧ pread ((wds [] D).getD k []) ≠ none) := Lib.hid (by
                      unfold PW
                      rw [HP1.out]
                      exact ⟨rfl, by simp⟩)
                    clear HP1 hin hca
                    go_wp2_with fail
                    refine (HNum.out _).mono ?_
                    rintro e w2 ⟨rfl, rfl⟩
                    go_wp2_with fail
                    refine (HIn.out _).mono ?_
                    rintro e w2 ⟨rfl, rfl⟩
                    go_wp2_with (at_builtin; refine stop_list ?_)
                    unfold Hid
                    refine wpList_append_own_at _ rfl _ _ 24 rfl w.heap.size 43 ti _ 3 24 Tryz.underlying24 ti1 z1 z2 z3 rfl (by decide) _ k _ rfl (by exact (HO.out.alloc _).alloc _) ⟨wr.heap.size + 1, 0, none⟩ 1 1 [.int .i64 ((c.toNat : Int) - 120), .int .i64 y, .bool false] (by simp [go_sem]) rfl (news_three (by simp [go_sem]) (by simp [go_sem]) (by simp [go_sem])) (one_three (p := ⟨(c.toNat : Int) - 120, y, false⟩)) (by unfold maxLen; omega) (by omega) (by simp; omega) ?_
                    intro v3 w3 hown hgrow hnil hblk
                    have HO3 := Lib.hid hown
                    have HB3 := Lib.hid (Below.grown (a := w) (by exact Below.alloc_own (Below.alloc_own HB.out _) _) hgrow (by simp; omega) (by intro j hj; exact (World.ownsRow.lt HO.out j hj).1))
                    have HG3 : Hid (w3.heap[g]? = w1.heap[g]? ∧ g < w3.heap.size ∧ v3.ownBlock ≠ some g) := Lib.hid (by
                      have hs3 := hgrow.size
                      simp only [World.size_alloc] at hs3
                      refine ⟨(hgrow.block g (by simp; omega) (fun e => HOB.out e.symm)).trans (((((Below.refl wr.heap.size wr).alloc (Nat.le_refl _) _).alloc (by simp) _).block g hgs).trans HGH.out), by omega, ?_⟩
                      rcases hblk with h | h
                      · rw [h]; exact HOB.out
                      · rw [h]; intro e; have := Option.some.inj e; simp at this; omega)
                    have HX := Lib.hid (show ∀ j, j < k + 1 → pread ((wds [] D).getD j []) ≠ none by
                      intro j hj
                      rcases Nat.lt_or_ge j k with hj2 | hj2
                      · exact hall.out j hj2
                      · have : j = k := by omega
                        subst this; exact HXX.out.2)
                    clear hown hgrow hnil hblk hall
                    go_wp2_with fail
                    go_roundw
                    case rel =>
                      refine ⟨k + 1, by go_num, by omega, ?_, HG3.out.2.2, HB3.out, HG3.out.1, HG3.out.2.1, HX⟩
                      rw [cellsL_next, HXX.out.1]
                      exact HO3.out
                    case measure => simp [intOf]; omega
                  · rw [decide_eq_false hin] at HIn
                    obtain ⟨e1, e2⟩ := HLk.out (by rw [srd_cons, if_neg (fun h => hin ⟨h.2.2.1, h.2.2.2⟩)])
                    clear hin
                    have HE1 := Lib.hid e1
                    have HE2 := Lib.hid e2
                    clear e1 e2
                    generalize num d = y at *
                    go_wp2_with fail
                    refine (HNum.out _).mono ?_
                    rintro e w2 ⟨rfl, rfl⟩
                    go_wp2_with fail
                    refine (HIn.out _).mono ?_
                    rintro e w2 ⟨rfl, rfl⟩
                    go_wp2_with fail
                    go_ret2
                    refine ⟨_, by rw [HE1.out]; rfl, ?_, by rw [HE2.out]; exact own_none _ _ _⟩
                    all_goals repeat first
                      | exact HB.out.alloc hsz _
                      | refine Below.setCell ?_ hsz _
        · replace hxr : x = 45 :: r := hxr
          subst hxr
          obtain ⟨hp, hc45⟩ := head_at hqd
          have hq0 : (0 : Int) < (q.size : Int) := by omega
          obtain ⟨t, htd, hts, hslt⟩ := tail_one hqd
          clear hqd hqs hbk
          cases r with
          | nil =>
            have hq2 : (t.size : Int) < 2 := by rw [hts]; simp
            obtain ⟨e1, e2⟩ := HLk.out rfl
            clear htd hts
            have HE1 := Lib.hid e1
            have HE2 := Lib.hid e2
            clear e1 e2
            go_wp2_with fail
            go_ret2
            exact ⟨_, by rw [HE1.out]; rfl, by first | exact HB.out.alloc hsz _ | exact (HB.out.alloc hsz _).setCell hsz _, by rw [HE2.out]; exact own_none _ _ _⟩
          | cons c d =>
            obtain ⟨htp, hc0⟩ := head_at htd
            obtain ⟨u, hud, hus, hsl⟩ := tail_one htd
            have hqd := htd
            have hqs := hts
            clear htd hts
            by_cases h2 : (t.size : Int) < 2
            · obtain ⟨e1, e2⟩ := HLk.out (by
                have : d = [] := by
                  have : d.length = 0 := by rw [hqs] at h2; simp only [List.length_cons] at h2; omega
                  exact List.length_eq_zero_iff.1 this
                subst this
                rw [srd_cons, if_neg]
                rintro ⟨_, _, h, _⟩
                exact absurd h (by decide))
              clear hud hus hqd hqs
              have HE1 := Lib.hid e1
              have HE2 := Lib.hid e2
              clear e1 e2
              go_wp2_with fail
              go_ret2
              exact ⟨_, by rw [HE1.out]; rfl, by first | exact HB.out.alloc hsz _ | exact (HB.out.alloc hsz _).setCell hsz _, by rw [HE2.out]; exact own_none _ _ _⟩
            · clear hqs hqd
              by_cases hA : c.toNat < 120
              · obtain ⟨e1, e2⟩ := HLk.out (by rw [srd_cons, if_neg (by omega)])
                have hA' : (c.toNat : Int) < 120 := by omega
                clear hud hus hA
                have HE1 := Lib.hid e1
                have HE2 := Lib.hid e2
                clear e1 e2
                go_wp2_with fail
                go_ret2
                exact ⟨_, by rw [HE1.out]; rfl, by first | exact HB.out.alloc hsz _ | exact (HB.out.alloc hsz _).setCell hsz _, by rw [HE2.out]; exact own_none _ _ _⟩
              · by_cases hZ : 122 < c.toNat
                · obtain ⟨e1, e2⟩ := HLk.out (by rw [srd_cons, if_neg (by omega)])
                  have hA' : ¬ (c.toNat : Int) < 120 := by omega
                  have hZ' : (122 : Int) < (c.toNat : Int) := by omega
                  clear hud hus hA hZ
                  have HE1 := Lib.hid e1
                  have HE2 := Lib.hid e2
                  clear e1 e2
                  go_wp2_with fail
                  go_ret2
                  exact ⟨_, by rw [HE1.out]; rfl, by first | exact HB.out.alloc hsz _ | exact (HB.out.alloc hsz _).setCell hsz _, by rw [HE2.out]; exact own_none _ _ _⟩
                · have hA' : ¬ (c.toNat : Int) < 120 := by omega
                  have hZ' : ¬ (122 : Int) < (c.toNat : Int) := by omega
                  have HNum := Lib.hid (fun w => dec_number u w)
                  rw [hud] at HNum
                  have HIn := Lib.hid (fun w => in_any (num d) 0 24 w)
                  have hca : 120 ≤ c.toNat ∧ c.toNat ≤ 122 := by omega
                  clear hud hus hA hZ
                  by_cases hin : 0 ≤ num d ∧ num d ≤ 24
                  · rw [decide_eq_true hin] at HIn
                    have hp1 := HPk.out
                    rw [srd_cons, if_pos ⟨hca.1, hca.2, hin.1, hin.2⟩] at hp1
                    have HP1 := Lib.hid hp1
                    clear hp1 HPk HLk
                    generalize num d = y at *
                    have hc0' : (0 : Int) ≤ (c.toNat : Int) - 120 := by omega
                    have hc1' : (c.toNat : Int) - 120 ≤ 2 := by omega
                    have HXX : Hid (PW D k = ⟨(c.toNat : Int) - 120, y, true⟩ ∧ pread ((wds [] D).getD k []) ≠ none) := Lib.hid (by
                      unfold PW
                      rw [HP1.out]
                      exact ⟨rfl, by simp⟩)
                    clear HP1 hin hca
                    go_wp2_with fail
                    refine (HNum.out _).mono ?_
                    rintro e w2 ⟨rfl, rfl⟩
                    go_wp2_with fail
                    refine (HIn.out _).mono ?_
                    rintro e w2 ⟨rfl, rfl⟩
                    go_wp2_with (at_builtin; refine stop_list ?_)
                    unfold Hid
                    refine wpList_append_own_at _ rfl _ _ 24 rfl w.heap.size 43 ti _ 3 24 Tryz.underlying24 ti1 z1 z2 z3 rfl (by decide) _ k _ rfl (by exact (HO.out.alloc _).alloc _) ⟨wr.heap.size + 1, 0, none⟩ 1 1 [.int .i64 ((c.toNat : Int) - 120), .int .i64 y, .bool true] (by simp [go_sem]) rfl (news_three (by simp [go_sem]) (by simp [go_sem]) (by simp [go_sem])) (one_three (p := ⟨(c.toNat : Int) - 120, y, true⟩)) (by unfold maxLen; omega) (by omega) (by simp; omega) ?_
                    intro v3 w3 hown hgrow hnil hblk
                    have HO3 := Lib.hid hown
                    have HB3 := Lib.hid (Below.grown (a := w) (by exact Below.alloc_own (Below.alloc_own HB.out _) _) hgrow (by simp; omega) (by intro j hj; exact (World.ownsRow.lt HO.out j hj).1))
                    have HG3 : Hid (w3.heap[g]? = w1.heap[g]? ∧ g < w3.heap.size ∧ v3.ownBlock ≠ some g) := Lib.hid (by
                      have hs3 := hgrow.size
                      simp only [World.size_alloc] at hs3
                      refine ⟨(hgrow.block g (by simp; omega) (fun e => HOB.out e.symm)).trans (((((Below.refl wr.heap.size wr).alloc (Nat.le_refl _) _).alloc (by simp) _).block g hgs).trans HGH.out), by omega, ?_⟩
                      rcases hblk with h | h
                      · rw [h]; exact HOB.out
                      · rw [h]; intro e; have := Option.some.inj e; simp at this; omega)
                    have HX := Lib.hid (show ∀ j, j < k + 1 → pread ((wds [] D).getD j []) ≠ none by
                      intro j hj
                      rcases Nat.lt_or_ge j k with hj2 | hj2
                      · exact hall.out j hj2
                      · have : j = k := by omega
                        subst this; exact HXX.out.2)
                    clear hown hgrow hnil hblk hall
                    go_wp2_with fail
                    go_roundw
                    case rel =>
                      refine ⟨k + 1, by go_num, by omega, ?_, HG3.out.2.2, HB3.out, HG3.out.1, HG3.out.2.1, HX⟩
                      rw [cellsL_next, HXX.out.1]
                      exact HO3.out
                    case measure => simp [intOf]; omega
                  · rw [decide_eq_false hin] at HIn
                    obtain ⟨e1, e2⟩ := HLk.out (by rw [srd_cons, if_neg (fun h => hin ⟨h.2.2.1, h.2.2.2⟩)])
                    clear hin
                    have HE1 := Lib.hid e1
                    have HE2 := Lib.hid e2
                    clear e1 e2
                    generalize num d = y at *
                    go_wp2_with fail
                    refine (HNum.out _).mono ?_
                    rintro e w2 ⟨rfl, rfl⟩
                    go_wp2_with fail
                    refine (HIn.out _).mono ?_
                    rintro e w2 ⟨rfl, rfl⟩
                    go_wp2_with fail
                    go_ret2
                    refine ⟨_, by rw [HE1.out]; rfl, ?_, by rw [HE2.out]; exact own_none _ _ _⟩
                    all_goals repeat first
                      | exact HB.out.alloc hsz _
                      | refine Below.setCell ?_ hsz _
      · have he : k = n := by omega
        subst he
        have hlt' : ¬ ((k : Int) < (k : Int)) := by omega
        obtain ⟨e1, e2⟩ := HYes.out (HEnd.out hn60 hall.out)
        have HE1 := Lib.hid e1
        have HE2 := Lib.hid e2
        have HB := Lib.hid hb
        have HO := Lib.hid hown
        clear e1 e2 hb hown hgh hob hall
        go_wp2_with fail
        go_ret2
        refine ⟨_, by rw [HE1.out]; rfl, HB.out, ?_⟩
        rw [HE2.out]
        exact own_congr (owns_own HO.out (by simp)) (fun i hi => by simp [hi])

theorem l05Read_ok (s : ByteArray) (hmax : s.size ≤ 4294967000) (w : World) :
    Calls Tryz.prog 44 #[.string s] w (RsPost w s.data.toList (goodB s.data.toList)) := by
  by_cases h0 : s.data.toList = []
  · rw [h0]
    exact l05Read_none s h0 w
  · exact l05Read_some s hmax h0 w

/-- What a function from texts to lists of pulses and codes hands back. -/
def Reads (f : FuncId) (s : ByteArray) : Prop :=
  ∀ (w : World), Calls Tryz.prog f #[.string s] w fun e w' => ∃ u, e = .returned (.tuple #[u, .int .i64 (cRead s.data.toList)]) ∧ Below w.heap.size w w' ∧ Own w' u (nRead s.data.toList) (PW s.data.toList) w.heap.size w'.heap.size

set_option maxRecDepth 100000 in
theorem specRead (s : ByteArray) (hmax : s.size ≤ 4294967000) : Reads 26 s := by
  intro w
  have HR := Lib.hid (fun w => l05Read_ok s hmax w)
  generalize s.data.toList = D at HR ⊢
  have hc : cRead D = if goodB D = true then 0 else 6 := rfl
  have hz : goodB D = false → nRead D = 0 := by
    intro h
    unfold goodB at h
    rw [Bool.or_eq_false_iff] at h
    unfold nRead
    rw [if_neg (of_decide_eq_false h.1), h.2]; rfl
  cases hg : goodB D
  · rw [hg] at HR hc
    have HC := Lib.hid hc
    have HZ := Lib.hid (hz hg)
    clear hc hz hg hmax
    go_enter Tryz.func26, Tryz.ntmps26
    go_wp2_with fail
    refine (HR.out _).mono ?_
    rintro e w1 ⟨u, rfl, hb, ho⟩
    have HB := Lib.hid hb
    clear hb ho
    go_wp2_with fail
    go_ret2
    exact ⟨_, by rw [HC.out]; rfl, HB.out, by rw [HZ.out]; exact own_none _ _ _⟩
  · rw [hg] at HR hc
    have HC := Lib.hid hc
    clear hc hz hg hmax
    go_enter Tryz.func26, Tryz.ntmps26
    go_wp2_with fail
    refine (HR.out _).mono ?_
    rintro e w1 ⟨u, rfl, hb, ho⟩
    have HB := Lib.hid hb
    have HO := Lib.hid ho
    clear hb ho
    go_wp2_with fail
    go_ret2
    exact ⟨_, by rw [HC.out]; rfl, HB.out, HO.out⟩
end Go.Proofs.YtojcdhnpdinbpaaGreatDoor
