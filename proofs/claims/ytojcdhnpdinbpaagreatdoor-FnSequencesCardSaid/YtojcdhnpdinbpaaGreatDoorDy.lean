/- Walks: lists of pulses are drawn, and seldom something else. -/
import Derived.Test.YtojcdhnpdinbpaaGreatDoorDz
namespace Go.Proofs.YtojcdhnpdinbpaaGreatDoor
open Go.RowKit

theorem pick_four (W0 : World) (c : Value) (len B : Nat) (w : World) (hcode : Code W0 c len) (hlen : (len : Int) ≤ 4096) (hs : Src W0 c len B w) :
    Calls Tryz.prog 45 #[.pointer (some ⟨B, 0, none⟩), .slice (some ⟨w.heap.size, 0, none⟩) 4 4] (w.alloc (.cells #[.int .i64 4, .int .i64 10, .int .i64 29, .int .i64 60] 2)) (PickPost W0 c len B (fun v => ∃ n : Nat, v = n ∧ n ≤ 60) (w.alloc (.cells #[.int .i64 4, .int .i64 10, .int .i64 29, .int .i64 60] 2))) := by
  have hl := hs.lies
  refine pick_any W0 c len B _ w.heap.size 4 _ hcode hlen (hs.alloc _) (by omega) (by omega) (by omega) ?_
  intro j j0 j1
  have hj : j = 0 ∨ j = 1 ∨ j = 2 ∨ j = 3 := by omega
  rcases hj with rfl | rfl | rfl | rfl
  · exact ⟨4, by simp [go_sem], 4, rfl, by omega⟩
  · exact ⟨10, by simp [go_sem], 10, rfl, by omega⟩
  · exact ⟨29, by simp [go_sem], 29, rfl, by omega⟩
  · exact ⟨60, by simp [go_sem], 60, rfl, by omega⟩

theorem pick_two (W0 : World) (c : Value) (len B : Nat) (w : World) (hcode : Code W0 c len) (hlen : (len : Int) ≤ 4096) (hs : Src W0 c len B w) (x y : Int) :
    Calls Tryz.prog 45 #[.pointer (some ⟨B, 0, none⟩), .slice (some ⟨w.heap.size, 0, none⟩) 2 2] (w.alloc (.cells #[.int .i64 x, .int .i64 y] 2)) (PickPost W0 c len B (fun _ => True) (w.alloc (.cells #[.int .i64 x, .int .i64 y] 2))) := by
  have hl := hs.lies
  refine pick_any W0 c len B _ w.heap.size 2 _ hcode hlen (hs.alloc _) (by omega) (by omega) (by omega) ?_
  intro j j0 j1
  have hj : j = 0 ∨ j = 1 := by omega
  rcases hj with rfl | rfl
  · exact ⟨x, by simp [go_sem], trivial⟩
  · exact ⟨y, by simp [go_sem], trivial⟩

def lenS : Value → Nat
  | .slice _ n _ => n
  | _ => 0

def SpoilPost (W0 : World) (c : Value) (len B : Nat) (e : Ending) (w' : World) : Prop := ∃ v L m, e = .returned v ∧ L.length = m ∧ m ≤ 61 ∧ w'.ownsRow (B + 1) 43 3 v m (cellsL L) ∧ v ≠ .slice none 0 0 ∧ Src W0 c len B w'

set_option maxRecDepth 100000 in
set_option maxHeartbeats 1000000 in
theorem l05Spoil_any (W0 : World) (c : Value) (len B : Nat) (w : World) (hcode : Code W0 c len) (hlen : (len : Int) ≤ 4096) (hs : Src W0 c len B w) :
    Calls Tryz.prog 27 #[.pointer (some ⟨B, 0, none⟩)] w (SpoilPost W0 c len B) := by
  have HN := Lib.hid (fun n w hs h1 h2 => next_any W0 c len B n w hcode hlen hs h1 h2)
  have HP4 := Lib.hid (fun w hs => pick_four W0 c len B w hcode hlen hs)
  have HP2 := Lib.hid (fun w hs x y => pick_two W0 c len B w hcode hlen hs x y)
  have HD := Lib.hid (fun most w hs hm => l05Draw_any W0 c len B most w hcode hlen hs hm)
  have HS := Lib.hid hs
  obtain ⟨ti, ti1, z1, z2, z3⟩ := info_parts infoPulse
  clear hs hcode
  go_enter Tryz.func27, Tryz.ntmps27
  go_wp2_with fail
  refine (HP4.out _ HS.out).mono ?_
  rintro e w1 ⟨x, rfl, ⟨most, rfl, hmost⟩, hs1, ho1⟩
  have HS1 := Lib.hid hs1
  clear hs1 ho1
  go_wp2_with fail
  refine (HD.out most _ HS1.out hmost).mono ?_
  rintro e w2 ⟨v, L, rfl, hL, hown, hok, hnn, hs2⟩
  obtain ⟨g, kc, rfl, hkc⟩ := owns_some hown hnn
  obtain ⟨m, hm⟩ : ∃ m, m = L.length := ⟨_, rfl⟩
  rw [← hm] at hL hown hkc ⊢
  have HM := Lib.hid hm.symm
  have HO2 := Lib.hid hown
  have HS2 := Lib.hid hs2
  have hgB : B + 1 ≤ g := (World.ownsRow.lt hown g rfl).1
  have hW0B := hs2.own
  have hl2 := hs2.lies
  clear hown hok hnn hs2 hm
  go_wp2_with fail
  refine (HN.out _ _ HS2.out (by omega) (by omega)).mono ?_
  rintro e w3 ⟨y, rfl, y0, y1, hs3, ho3⟩
  have HS3 := Lib.hid hs3
  have HO3 := Lib.hid (owns_only HO2.out ho3 (by omega))
  have hl3 := hs3.lies
  clear hs3 ho3
  by_cases hy0 : y = 0
  · subst hy0
    go_wp2_with fail
    refine (HP2.out _ HS3.out 3 (-1)).mono ?_
    rintro e w4 ⟨z, rfl, _, hs4, ho4⟩
    have HS4 := Lib.hid hs4
    have HO4 := Lib.hid (owns_only (HO3.out.alloc _) ho4 (by omega))
    have hl4 := hs4.lies
    clear hs4 ho4
    go_wp2_with (at_builtin; refine stop_list ?_)
    unfold Hid
    refine wpList_append_own_at _ rfl _ _ 24 rfl (B + 1) 43 ti _ 3 24 Tryz.underlying24 ti1 z1 z2 z3 rfl (by decide) _ (m) _ rfl (by exact HO4.out.alloc _) ⟨w4.heap.size, 0, none⟩ 1 1 [.int .i64 (z), .int .i64 (0), .bool (false)] (by simp [go_sem]) rfl (news_three (by simp [go_sem]) (by simp [go_sem]) (by simp [go_sem])) (one_three (p := ⟨z, 0, false⟩)) (by unfold maxLen; omega) (by omega) (by simp; omega) ?_
    intro v3 w9 hown hgrow hnil hblk
    have HOf := Lib.hid hown
    have HSf := Lib.hid (Src.grown (by exact HS4.out.alloc _) hgrow (fun e => by have e2 : some B = some g := e; have := Option.some.inj e2; omega) (fun k hk e => by have e2 : some k = some g := e; have := Option.some.inj e2; omega))
    have HNf := Lib.hid (show v3 ≠ .slice none 0 0 from fun h => by have h2 : Value.slice (some ⟨g, 0, none⟩) (m) kc = .slice none 0 0 := (hnil.1 h).1; cases h2)
    clear hown hgrow hnil hblk
    go_wp2_with fail
    go_ret
    refine ⟨_, L ++ [⟨z, 0, false⟩], m + 1, rfl, by rw [List.length_append, HM.out]; rfl, by omega, ?_, HNf.out, HSf.out⟩
    rw [cellsL_snoc]
    exact HOf.out
  · have e0 : (y == 0) = false := by rw [beq_eq_false_iff_ne]; exact hy0
    by_cases hy1 : y = 1
    · subst hy1
      go_wp2_with fail
      refine (HP2.out _ HS3.out 25 (-1)).mono ?_
      rintro e w4 ⟨z, rfl, _, hs4, ho4⟩
      have HS4 := Lib.hid hs4
      have HO4 := Lib.hid (owns_only (HO3.out.alloc _) ho4 (by omega))
      have hl4 := hs4.lies
      clear hs4 ho4
      go_wp2_with (at_builtin; refine stop_list ?_)
      unfold Hid
      refine wpList_append_own_at _ rfl _ _ 24 rfl (B + 1) 43 ti _ 3 24 Tryz.underlying24 ti1 z1 z2 z3 rfl (by decide) _ (m) _ rfl (by exact HO4.out.alloc _) ⟨w4.heap.size, 0, none⟩ 1 1 [.int .i64 (0), .int .i64 (z), .bool (false)] (by simp [go_sem]) rfl (news_three (by simp [go_sem]) (by simp [go_sem]) (by simp [go_sem])) (one_three (p := ⟨0, z, false⟩)) (by unfold maxLen; omega) (by omega) (by simp; omega) ?_
      intro v3 w9 hown hgrow hnil hblk
      have HOf := Lib.hid hown
      have HSf := Lib.hid (Src.grown (by exact HS4.out.alloc _) hgrow (fun e => by have e2 : some B = some g := e; have := Option.some.inj e2; omega) (fun k hk e => by have e2 : some k = some g := e; have := Option.some.inj e2; omega))
      have HNf := Lib.hid (show v3 ≠ .slice none 0 0 from fun h => by have h2 : Value.slice (some ⟨g, 0, none⟩) (m) kc = .slice none 0 0 := (hnil.1 h).1; cases h2)
      clear hown hgrow hnil hblk
      go_wp2_with fail
      go_ret
      refine ⟨_, L ++ [⟨0, z, false⟩], m + 1, rfl, by rw [List.length_append, HM.out]; rfl, by omega, ?_, HNf.out, HSf.out⟩
      rw [cellsL_snoc]
      exact HOf.out
    · have e1 : (y == 1) = false := by rw [beq_eq_false_iff_ne]; exact hy1
      by_cases hy2 : y = 2
      · subst hy2
        go_wp2_with fail
        go_loopw [3] (fun v' wr => ∃ (m' : Nat) (L' : List Pu), L'.length = m' ∧ m' ≤ 61 ∧ wr.ownsRow (B + 1) 43 3 v' m' (cellsL L') ∧ v' ≠ .slice none 0 0 ∧ Src W0 c len B wr) (fun v' _ => 61 - lenS v')
        case atStart => exact ⟨m, L, HM.out, by omega, HO3.out, (fun h => by cases h), HS3.out⟩
        case round =>
          obtain ⟨m', L', hm', h61, hown, hnn, hs⟩ := hrel
          obtain ⟨g', kc', rfl, hkc'⟩ := owns_some hown hnn
          have HM' := Lib.hid hm'
          have HO := Lib.hid hown
          have HSr := Lib.hid hs
          have hgB' : B + 1 ≤ g' := (World.ownsRow.lt hown g' rfl).1
          have hlr := hs.lies
          clear hown hs hnn hm' HO2 HS2 HO3 HS3
          by_cases hlt : m' < 61
          · have hlt' : (m' : Int) < 61 := by omega
            go_wp2_with (at_builtin; refine stop_list ?_)
            unfold Hid
            refine wpList_append_own_at _ rfl _ _ 24 rfl (B + 1) 43 ti _ 3 24 Tryz.underlying24 ti1 z1 z2 z3 rfl (by decide) _ (m') _ rfl (by exact HO.out.alloc _) ⟨wr.heap.size, 0, none⟩ 1 1 [.int .i64 (0), .int .i64 (1), .bool (false)] (by simp [go_sem]) rfl (news_three (by simp [go_sem]) (by simp [go_sem]) (by simp [go_sem])) (one_three (p := ⟨0, 1, false⟩)) (by unfold maxLen; omega) (by omega) (by simp; omega) ?_
            intro v3 w9 hown hgrow hnil hblk
            have HOf := Lib.hid hown
            have HSf := Lib.hid (Src.grown (by exact HSr.out.alloc _) hgrow (fun e => by have e2 : some B = some g' := e; have := Option.some.inj e2; omega) (fun k hk e => by have e2 : some k = some g' := e; have := Option.some.inj e2; omega))
            have HNf := Lib.hid (show v3 ≠ .slice none 0 0 from fun h => by have h2 : Value.slice (some ⟨g', 0, none⟩) (m') kc' = .slice none 0 0 := (hnil.1 h).1; cases h2)
            clear hown hgrow hnil hblk
            go_wp2_with fail
            go_roundw
            case rel =>
              refine ⟨m' + 1, L' ++ [⟨0, 1, false⟩], by rw [List.length_append, HM'.out]; rfl, by omega, ?_, HNf.out, HSf.out⟩
              rw [cellsL_snoc]
              exact HOf.out
            case measure =>
              obtain ⟨g3, kc3, rfl, _⟩ := owns_some HOf.out HNf.out
              simp [lenS]
              omega
          · have hm61 : m' = 61 := by omega
            subst hm61
            go_wp2_with fail
            go_ret
            exact ⟨_, L', 61, rfl, HM'.out, by omega, HO.out, (fun h => by cases h), HSr.out⟩
      · have e2 : (y == 2) = false := by rw [beq_eq_false_iff_ne]; exact hy2
        go_wp2_with fail
        go_ret
        exact ⟨_, L, m, rfl, HM.out, by omega, HO3.out, (fun h => by cases h), HS3.out⟩
end Go.Proofs.YtojcdhnpdinbpaaGreatDoor
