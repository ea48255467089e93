/- Walks: inverses, as the program has them: whole. -/
import Derived.Test.YtojcdhnpdinbpaaGreatDoorIv
namespace Go.Proofs.YtojcdhnpdinbpaaGreatDoor
open Go.RowKit

theorem make_room (n : Nat) (hn : n ≤ 1048576) (w : World) :
    (Instr.makeSlice 24 (.int .i64 0) (.int .i64 (n : Int))).run Tryz.prog w = .ok (.slice (some ⟨w.heap.size, 0, none⟩) 0 n) (w.alloc (.cells (madeCells #[.int .i64 0, .int .i64 0, .bool false] (n * 3)) 43)) := by
  obtain ⟨i, hi1, z1, z2, z3⟩ := info_parts infoPulse
  have := run_make (P := Tryz.prog) w 24 43 i _ Tryz.underlying24 hi1 z1 .i64 .i64 0 n (Int.le_refl _) (by omega) (by rw [z3]; omega) (by omega)
  rw [z2] at this
  have hc : (Value.agg #[.int .i64 0, .int .i64 0, .bool false]).cells = #[.int .i64 0, .int .i64 0, .bool false] := by kernel_rfl
  rw [hc] at this
  simpa using this

theorem own_form {w : World} {v : Value} {m lo hi : Nat} {P : Nat → Pu} (h : Own w v m P lo hi) (h0 : 0 < m) : ∃ B cap N, v = .slice (some ⟨B, 0, none⟩) m cap ∧ lo ≤ B ∧ B < hi ∧ hi ≤ w.heap.size ∧ m ≤ N ∧ ∃ Q, Row w B N Q ∧ ∀ i, i < m → Q i = P i := by
  obtain ⟨a, cap, rfl, hh, h⟩ := h
  obtain ⟨B, N, Q, rfl, h1, h2, h3, h4, h5⟩ := h h0
  exact ⟨B, cap, N, rfl, h1, h2, hh, h3, Q, h4, h5⟩

theorem owns_below {w w' : World} {base n size : Nat} {e : TypeId} {v : Value} {xs : List Value} (h : w.ownsRow base e size v n xs) (hb : Below w.heap.size w w') : w'.ownsRow base e size v n xs := by
  obtain ⟨h1, ⟨rfl, rfl⟩ | ⟨g, cap, cur, rfl, hg, hk, hn, hm, hs, ht⟩⟩ := h
  · exact ⟨h1, .inl ⟨rfl, rfl⟩⟩
  · have hlt : g < w.heap.size := (Array.getElem?_eq_some_iff.1 hk).1
    exact ⟨h1, .inr ⟨g, cap, cur, rfl, hg, (hb.block g hlt).trans hk, hn, hm, hs, ht⟩⟩

theorem own_high {w : World} {v : Value} {m lo hi hi' : Nat} {P : Nat → Pu} (h : Own w v m P lo hi) (h1 : hi ≤ hi') (h2 : hi' ≤ w.heap.size) : Own w v m P lo hi' := by
  obtain ⟨a, cap, rfl, hh, h⟩ := h
  refine ⟨a, cap, rfl, h2, fun h0 => ?_⟩
  obtain ⟨B, N, Q, rfl, g1, g2, g3, g4, g5⟩ := h h0
  exact ⟨B, N, Q, rfl, g1, by omega, g3, g4, g5⟩

theorem cellsL_next (k : Nat) (F : Nat → Pu) : cellsL ((List.range (k + 1)).map F) = cellsL ((List.range k).map F) ++ [.int .i64 (F k).ax, .int .i64 (F k).ha, .bool (F k).bk] := by
  rw [List.range_succ, List.map_append]
  unfold cellsL
  rw [List.flatMap_append]
  rfl

theorem reverse_none (a : Option Addr) (cap : Nat) (w : World) :
    Calls Tryz.prog 37 #[.slice a 0 cap] w fun e w' => (∃ v, e = .returned v) ∧ w = w' := by
  go_enter Tryz.func37, Tryz.ntmps37
  go_wp2_with fail
  go_loopw [2, 3] (fun i j wr => i = .int .i64 0 ∧ j = .int .i64 (-1) ∧ w = wr) (fun _ _ _ => 0)
  case atStart => exact ⟨rfl, rfl, rfl⟩
  case round =>
    obtain ⟨rfl, rfl, rfl⟩ := hrel
    go_wp2_with fail
    go_end0
    exact ⟨⟨_, rfl⟩, rfl⟩

/-- A list of the call's own, turned round. -/
theorem reverse_own {w : World} {v : Value} {m lo hi : Nat} {P : Nat → Pu} (h : Own w v m P lo hi) (hm : m ≤ 1048576) :
    Calls Tryz.prog 37 #[v] w fun e w' => (∃ v, e = .returned v) ∧ Own w' v m (fun i => P (m - 1 - i)) lo hi ∧ Save w w' lo hi := by
  by_cases h0 : m = 0
  · subst h0
    obtain ⟨a, cap, rfl, hh, h⟩ := h
    refine (reverse_none a cap w).mono ?_
    rintro e w' ⟨he, rfl⟩
    exact ⟨he, ⟨a, cap, rfl, hh, fun g => absurd g (Nat.lt_irrefl _)⟩, ⟨rfl, rfl, rfl, Nat.le_refl _, fun _ _ _ => rfl⟩⟩
  · obtain ⟨B, cap, N, rfl, h1, h2, hh, h3, Q, h4, h5⟩ := own_form h (by omega)
    refine (reverse_ok h4 h3 hm).mono ?_
    rintro e w' ⟨he, hb, hr⟩
    refine ⟨he, ⟨_, cap, rfl, Nat.le_trans hh hb.size, fun _ => ⟨B, N, _, rfl, h1, h2, h3, hr, fun i hi => ?_⟩⟩, ⟨hb.os, hb.tape, hb.output, hb.size, fun b hb1 hb2 => hb.block b hb1 (by omega)⟩⟩
    rw [if_pos hi, h5 _ (by omega)]

set_option maxRecDepth 100000 in
set_option maxHeartbeats 2000000 in
theorem implInv_full {n : Nat} {P : Nat → Pu} (hn : n ≤ 1048576) (hs : seqB n P = true) (w : World) (b off cap : Nat) (h : Rd w (.slice (some ⟨b, off, none⟩) n cap) n P) : Calls Tryz.prog 11 #[.slice (some ⟨b, off, none⟩) n cap] w fun e w' => ∃ u, e = .returned (.tuple #[u, .int .i64 0]) ∧ Below w.heap.size w w' ∧ Own w' u n (fun i => inv (P (n - 1 - i))) w.heap.size w'.heap.size ∧ ∃ b' cap', u = .slice (some ⟨b', 0, none⟩) n cap' ∧ n ≤ cap' := by
  have HI := Lib.hid (implIs_ok h hn)
  rw [hs] at HI
  have HT := Lib.hid (fun p w => turned_any p w)
  have hmk := make_room n hn
  obtain ⟨ti, ti1, z1, z2, z3⟩ := info_parts infoPulse
  obtain ⟨a, cap', hv, h⟩ := h
  injection hv with q1 _ q3
  subst q1 q3
  go_enter Tryz.func11, Tryz.ntmps11
  go_wp2_with fail
  refine HI.out.mono ?_
  rintro e w0 ⟨rfl, hb0⟩
  have HB0 := Lib.hid hb0
  have hsz0 := hb0.size
  clear hb0
  go_wp2_with fail
  have hown0 : (w0.alloc (.cells (madeCells #[.int .i64 0, .int .i64 0, .bool false] (n * 3)) 43)).ownsRow w.heap.size 43 3 (.slice (some ⟨w0.heap.size, 0, none⟩) 0 n) 0 [] :=
    World.ownsRow_made w0 _ n hsz0 (by unfold maxLen; omega) (by rw [size_madeCells])
  generalize madeCells #[Value.int .i64 0, .int .i64 0, .bool false] (n * 3) = cs at *
  go_loopw [4, 15] (fun v' i wr => ∃ k : Nat, k ≤ n ∧ i = .int .i64 k ∧ wr.ownsRow w.heap.size 43 3 v' k (cellsL ((List.range k).map fun j => inv (P j))) ∧ Below w.heap.size w wr ∧ v' ≠ .slice none 0 0) (fun _ i _ => n - (intOf i).toNat)
  case atStart => exact ⟨0, Nat.zero_le _, rfl, hown0, HB0.out.alloc hsz0 _, fun h => by cases h⟩
  case round =>
    obtain ⟨k, hk, rfl, hown, hb, hnn⟩ := hrel
    have HNN := Lib.hid hnn
    clear hnn
    by_cases hlt : k < n
    · obtain ⟨b', off', q5, hl, hc⟩ := h (by omega)
      injection q5 with q5
      injection q5 with q6 q7
      subst q6 q7
      obtain ⟨c0, c1, c2⟩ := hc k hlt
      rw [← hb.cell (p := ⟨b, _, none⟩) hl] at c0 c1 c2
      have hsz := hb.size
      have hl2 : b < wr.heap.size := Nat.lt_of_lt_of_le hl hsz
      have hlt' : (k : Int) < (n : Int) := by omega
      have HB := Lib.hid hb
      have HO := Lib.hid hown
      have T := HT.out (P k)
      unfold Pu.v at T
      have HTk := Lib.hid T
      clear hb hown hc h hmk hown0 T
      go_wp2_with fail
      refine (HTk.out _).mono ?_
      rintro e w2 ⟨rfl, hb2⟩
      have hsz2 := hb2.size
      simp only [World.size_setCell, World.size_alloc] at hsz2
      have hb3 : Below wr.heap.size wr w2 := ((Below.refl wr.heap.size wr).alloc (Nat.le_refl _) _).trans (hb2.mono (by simp))
      have HB2 := Lib.hid (HB.out.trans (Below.mono hb3 hsz))
      have HO2 := Lib.hid (owns_below HO.out hb3)
      have hsz3 := hb3.size
      clear hb2 hb3
      unfold inv
      go_wp2_with (at_builtin; refine stop_list ?_)
      unfold Hid
      refine wpList_append_own_at _ rfl _ _ 24 rfl w.heap.size 43 ti _ 3 24 Tryz.underlying24 ti1 z1 z2 z3 rfl (by decide) _ k _ rfl (by exact HO2.out.alloc _) ⟨w2.heap.size, 0, none⟩ 1 _ [.int .i64 (inv (P k)).ax, .int .i64 (inv (P k)).ha, .bool (inv (P k)).bk] rfl rfl (news_three (by simp [go_sem, inv]) (by simp [go_sem, inv]) (by simp [go_sem, inv])) one_three (by unfold maxLen; omega) (by omega) (by simp; omega) ?_
      intro v3 w3 hown hgrow hnil hblk
      have HO3 := Lib.hid hown
      have HB3 := Lib.hid (Below.grown (a := w) (by exact Below.alloc_own HB2.out _) hgrow (by simp; omega) (by intro g hg; exact (World.ownsRow.lt HO2.out g hg).1))
      have HN3 := Lib.hid (fun h => HNN.out (hnil.1 h).1)
      clear hown hgrow hnil hblk
      go_wp2_with fail
      go_roundw
      case rel =>
        refine ⟨k + 1, by omega, by go_num, ?_, HB3.out, HN3.out⟩
        rw [cellsL_next]
        exact HO3.out
      case measure => simp [intOf]; omega
    · have he : k = n := by omega
      subst he
      have hlt' : ¬ ((k : Int) < (k : Int)) := by omega
      have HB := Lib.hid hb
      have HF := Lib.hid (owns_some hown HNN.out)
      have HO := Lib.hid (own_congr (owns_own hown (by simp)) (Q := fun i => inv (P i)) (fun i hi => by simp [hi]))
      clear hb hown h
      go_wp2_with fail
      refine (reverse_own HO.out hn).mono ?_
      rintro e w2 ⟨⟨v2, rfl⟩, ho, hsv⟩
      have HO2 := Lib.hid ho
      have HB2 := Lib.hid (hsv.below HB.out (Nat.le_refl _))
      have HS2 := Lib.hid hsv.size
      clear ho hsv
      go_wp2_with fail
      go_ret2
      exact ⟨_, rfl, HB2.out, own_high HO2.out HS2.out (Nat.le_refl _), HF.out⟩

theorem implInv_yes {n : Nat} {P : Nat → Pu} (hn : n ≤ 1048576) (hs : seqB n P = true) : Gives 11 n P n (fun i => inv (P (n - 1 - i))) 0 :=
  fun w b off cap h => (implInv_full hn hs w b off cap h).mono fun _ _ ⟨u, h1, h2, h3, _⟩ => ⟨u, h1, h2, h3⟩

theorem implInv_no {n : Nat} {P : Nat → Pu} (hn : n ≤ 1048576) (hs : seqB n P = false) : Gives 11 n P 0 (fun _ => noPu) 1 := by
  intro w b off cap h
  have HI := Lib.hid (implIs_ok h hn)
  rw [hs] at HI
  clear h
  go_enter Tryz.func11, Tryz.ntmps11
  go_wp2_with fail
  refine HI.out.mono ?_
  rintro e w' ⟨rfl, hb⟩
  have HB := Lib.hid hb
  clear hb
  go_wp2_with fail
  go_ret2
  exact ⟨_, rfl, HB.out, ⟨none, 0, rfl, Nat.le_refl _, fun h0 => absurd h0 (Nat.lt_irrefl _)⟩⟩

theorem implInv {n : Nat} {P : Nat → Pu} (hn : n ≤ 1048576) : Gives 11 n P (if seqB n P then n else 0) (if seqB n P then fun i => inv (P (n - 1 - i)) else fun _ => noPu) (if seqB n P then 0 else 1) := by
  cases hs : seqB n P
  · exact implInv_no hn hs
  · exact implInv_yes hn hs
end Go.Proofs.YtojcdhnpdinbpaaGreatDoor
