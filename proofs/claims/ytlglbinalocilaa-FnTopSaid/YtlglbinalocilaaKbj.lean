/- Walks: inverses, as the program has them. Walks: inverses, as the program has them: whole. -/
import Derived.Test.YtlglbinalocilaaEc
import Derived.Test.YtlglbinalocilaaKax
import Derived.OwnWalk
namespace Go.Proofs.Ytlglbinalocilaa
open Go.RowKit

theorem turned_any (p : Pu) (w : World) :
    Calls Try.prog 31 #[p.v] w fun e w' => e = .returned (inv p).v ∧ Below w.heap.size w w' := by
  obtain ⟨x, y, z⟩ := p
  unfold Pu.v inv
  go_enter Try.func31, Try.ntmps31
  go_wp2
  refine bodyPost_ret (v := .agg #[.int .i64 x, .int .i64 y, .bool (!z)]) (by simp [results, Try.results31, go_sem]) rfl ⟨rfl, ?_⟩
  all_goals repeat first
    | exact Below.refl _ _
    | refine Below.setCell ?_ ?_ _
    | refine Below.alloc ?_ ?_ _
  all_goals first | omega | (simp; done) | (simp; omega)

theorem But.drew {w w' : World} {B : Nat} (h : But w w' B) : But w w'.drew B := ⟨h.os, h.tape, h.output, h.size, h.block⟩

theorem row_drew {w : World} {B N : Nat} {P : Nat → Pu} (h : Row w B N P) : Row w.drew B N P := row_block h rfl

/-- What lies in a list of n pulses of which k pairs have been exchanged. -/
def half (n k : Nat) (P : Nat → Pu) (m : Nat) : Pu := if m < k then P (n - 1 - m) else if n - 1 - k < m ∧ m < n then P (n - 1 - m) else P m

theorem half_next {n k j : Nat} {P : Nat → Pu} (hj : j = n - 1 - k) (hk : 2 * k + 1 < n) (m : Nat) : (if m = j then P k else if m = k then P j else half n k P m) = half n (k + 1) P m := by
  unfold half
  by_cases h1 : m = j
  · rw [if_pos h1, if_neg (by omega), if_pos (by omega), show n - 1 - m = k by omega]
  · rw [if_neg h1]
    by_cases h2 : m = k
    · rw [if_pos h2, if_pos (by omega), show n - 1 - m = j by omega]
    · rw [if_neg h2]
      by_cases h3 : m < k
      · rw [if_pos h3, if_pos (by omega)]
      · rw [if_neg h3, if_neg (show ¬ m < k + 1 by omega)]
        by_cases h4 : n - 1 - k < m ∧ m < n
        · rw [if_pos h4, if_pos (by omega)]
        · rw [if_neg h4, if_neg (by omega)]

theorem half_next' {n k j : Nat} {P : Nat → Pu} (hj : j = n - 1 - k) (hk : 2 * k + 1 < n) (m : Nat) : (if m = k then P j else if m = j then P k else half n k P m) = half n (k + 1) P m := by
  rw [← half_next hj hk m]
  by_cases h1 : m = j
  · rw [if_neg (by omega), if_pos h1, if_pos h1]
  · rw [if_neg h1, if_neg h1]

theorem half_all {n k : Nat} {P : Nat → Pu} (hk : n ≤ 2 * k + 1) {m : Nat} (hm : m < n) (hk2 : 2 * k ≤ n) : half n k P m = P (n - 1 - m) := by
  unfold half
  by_cases h3 : m < k
  · rw [if_pos h3]
  · rw [if_neg h3]
    by_cases h4 : n - 1 - k < m ∧ m < n
    · rw [if_pos h4]
    · rw [if_neg h4, show n - 1 - m = m by omega]

set_option maxRecDepth 100000 in
set_option maxHeartbeats 2000000 in
theorem reverse_ok {w : World} {B N n cap : Nat} {P : Nat → Pu} (h : Row w B N P) (hN : n ≤ N) (hn : n ≤ 1048576) :
    Calls Try.prog 32 #[.slice (some ⟨B, 0, none⟩) n cap] w fun e w' => (∃ v, e = .returned v) ∧ But w w' B ∧ Row w' B N (fun m => if m < n then P (n - 1 - m) else P m) := by
  go_enter Try.func32, Try.ntmps32
  go_wp2_with fail
  go_loopw [2, 3] (fun i j wr => ∃ k : Nat, i = .int .i64 k ∧ j = .int .i64 ((n : Int) - 1 - k) ∧ 2 * k ≤ n ∧ But w wr B ∧ Row wr B N (half n k P)) (fun i _ _ => n - (intOf i).toNat)
  case atStart => exact ⟨0, rfl, by simp, by omega, But.refl _ _, row_congr h (fun i hi => by unfold half; rw [if_neg (by omega), if_neg (by omega)])⟩
  case round =>
    obtain ⟨k, rfl, rfl, hk, hb, hr⟩ := hrel
    by_cases hlt : 2 * k + 1 < n
    · obtain ⟨j, hj⟩ : ∃ j : Nat, (n : Int) - 1 - k = j := ⟨n - 1 - k, by omega⟩
      have hjn : j = n - 1 - k := by omega
      rw [hj]
      have ek : half n k P k = P k := by unfold half; rw [if_neg (by omega), if_neg (by omega)]
      have ej : half n k P j = P j := by unfold half; rw [if_neg (by omega), if_neg (by omega)]
      have s0 := row_cell hr (j := k * 3) (by omega)
      have s1 := row_cell hr (j := k * 3 + 1) (by omega)
      have s2 := row_cell hr (j := k * 3 + 2) (by omega)
      have t0 := row_cell hr (j := j * 3) (by omega)
      have t1 := row_cell hr (j := j * 3 + 1) (by omega)
      have t2 := row_cell hr (j := j * 3 + 2) (by omega)
      rw [pc0, ek] at s0
      rw [pc1, ek] at s1
      rw [pc2, ek] at s2
      rw [pc0, ej] at t0
      rw [pc1, ej] at t1
      rw [pc2, ej] at t2
      have f0 := row_frozen hr (k * 3)
      have f1 := row_frozen hr (k * 3 + 1)
      have f2 := row_frozen hr (k * 3 + 2)
      have g0 := row_frozen hr (j * 3)
      have g1 := row_frozen hr (j * 3 + 1)
      have g2 := row_frozen hr (j * 3 + 2)
      have hz : B < wr.heap.size := row_lt hr
      have hlt' : (k : Int) < (j : Int) := by omega
      have hjl : (j : Int) < (n : Int) := by omega
      have hkl : (k : Int) < (n : Int) := by omega
      have HB := Lib.hid hb
      have HR := Lib.hid hr
      have HJ := Lib.hid hj
      have HK := Lib.hid hlt
      have HJN := Lib.hid hjn
      clear hb hr h hj hlt hjn ek ej hk
      go_wp2_with fail
      go_region
      all_goals
        go_wp2_with fail
        go_roundw
        case rel =>
          refine ⟨k + 1, by go_num, congrArg (Value.int .i64) (by have := HJ.out; omega), by have := HK.out; omega, ?_, ?_⟩
          · exact But.drew ((((((HB.out.put _ _).put _ _).put _ _).put _ _).put _ _).put _ _)
          · first
              | exact row_congr (row_drew (row_put (row_put HR.out (P j) (i := k)) (P k) (i := j))) (fun m _ => half_next HJN.out HK.out m)
              | exact row_congr (row_drew (row_put (row_put HR.out (P k) (i := j)) (P j) (i := k))) (fun m _ => half_next' HJN.out HK.out m)
        case measure => simp [intOf]; omega
    · have hlt' : ¬ ((k : Int) < (n : Int) - 1 - (k : Int)) := by omega
      have HB := Lib.hid hb
      have HR := Lib.hid (row_congr hr (Q := fun m => if m < n then P (n - 1 - m) else P m) (fun m _ => by
        by_cases hm : m < n
        · rw [if_pos hm, half_all (by omega) hm hk]
        · rw [if_neg hm]; unfold half; rw [if_neg (by omega), if_neg (by omega)]))
      clear hb hr h hlt hk
      go_wp2_with fail
      go_end0
      exact ⟨⟨_, rfl⟩, HB.out, HR.out⟩

end Go.Proofs.Ytlglbinalocilaa

namespace Go.Proofs.Ytlglbinalocilaa
open Go.RowKit

theorem make_room (n : Nat) (hn : n ≤ 1048576) (w : World) :
    (Instr.makeSlice 24 (.int .i64 0) (.int .i64 (n : Int))).run Try.prog w = .ok (.slice (some ⟨w.heap.size, 0, none⟩) 0 n) (w.alloc (.cells (madeCells #[.int .i64 0, .int .i64 0, .bool false] (n * 3)) 64)) := by
  obtain ⟨i, hi1, z1, z2, z3⟩ := info_parts infoPulse
  have := run_make (P := Try.prog) w 24 64 i _ Try.underlying24 hi1 z1 .i64 .i64 0 n (Int.le_refl _) (by omega) (by rw [z3]; omega) (by omega)
  rw [z2] at this
  have hc : (Value.agg #[.int .i64 0, .int .i64 0, .bool false]).cells = #[.int .i64 0, .int .i64 0, .bool false] := by kernel_rfl
  rw [hc] at this
  simpa using this

theorem own_form {w : World} {v : Value} {m lo hi : Nat} {P : Nat → Pu} (h : Own w v m P lo hi) (h0 : 0 < m) : ∃ B cap N, v = .slice (some ⟨B, 0, none⟩) m cap ∧ lo ≤ B ∧ B < hi ∧ hi ≤ w.heap.size ∧ m ≤ N ∧ ∃ Q, Row w B N Q ∧ ∀ i, i < m → Q i = P i := by
  obtain ⟨a, cap, rfl, hh, h⟩ := h
  obtain ⟨B, N, Q, rfl, h1, h2, h3, h4, h5⟩ := h h0
  exact ⟨B, cap, N, rfl, h1, h2, hh, h3, Q, h4, h5⟩

theorem owns_below {w w' : World} {base n size : Nat} {e : TypeId} {v : Value} {xs : List Value} (h : w.ownsRow base e size v n xs) (hb : Below w.heap.size w w') : w'.ownsRow base e size v n xs := by
  obtain ⟨h1, ⟨rfl, rfl⟩ | ⟨g, cap, cur, rfl, hg, hk, hn, hm, hs, ht⟩⟩ := h
  · exact ⟨h1, .inl ⟨rfl, rfl⟩⟩
  · have hlt : g < w.heap.size := (Array.getElem?_eq_some_iff.1 hk).1
    exact ⟨h1, .inr ⟨g, cap, cur, rfl, hg, (hb.block g hlt).trans hk, hn, hm, hs, ht⟩⟩

theorem own_high {w : World} {v : Value} {m lo hi hi' : Nat} {P : Nat → Pu} (h : Own w v m P lo hi) (h1 : hi ≤ hi') (h2 : hi' ≤ w.heap.size) : Own w v m P lo hi' := by
  obtain ⟨a, cap, rfl, hh, h⟩ := h
  refine ⟨a, cap, rfl, h2, fun h0 => ?_⟩
  obtain ⟨B, N, Q, rfl, g1, g2, g3, g4, g5⟩ := h h0
  exact ⟨B, N, Q, rfl, g1, by omega, g3, g4, g5⟩

theorem cellsL_next (k : Nat) (F : Nat → Pu) : cellsL ((List.range (k + 1)).map F) = cellsL ((List.range k).map F) ++ [.int .i64 (F k).ax, .int .i64 (F k).ha, .bool (F k).bk] := by
  rw [List.range_succ, List.map_append]
  unfold cellsL
  rw [List.flatMap_append]
  rfl

theorem reverse_none (a : Option Addr) (cap : Nat) (w : World) :
    Calls Try.prog 32 #[.slice a 0 cap] w fun e w' => (∃ v, e = .returned v) ∧ w = w' := by
  go_enter Try.func32, Try.ntmps32
  go_wp2_with fail
  go_loopw [2, 3] (fun i j wr => i = .int .i64 0 ∧ j = .int .i64 (-1) ∧ w = wr) (fun _ _ _ => 0)
  case atStart => exact ⟨rfl, rfl, rfl⟩
  case round =>
    obtain ⟨rfl, rfl, rfl⟩ := hrel
    go_wp2_with fail
    go_end0
    exact ⟨⟨_, rfl⟩, rfl⟩

/-- A list of the call's own, turned round. -/
theorem reverse_own {w : World} {v : Value} {m lo hi : Nat} {P : Nat → Pu} (h : Own w v m P lo hi) (hm : m ≤ 1048576) :
    Calls Try.prog 32 #[v] w fun e w' => (∃ v, e = .returned v) ∧ Own w' v m (fun i => P (m - 1 - i)) lo hi ∧ Save w w' lo hi := by
  by_cases h0 : m = 0
  · subst h0
    obtain ⟨a, cap, rfl, hh, h⟩ := h
    refine (reverse_none a cap w).mono ?_
    rintro e w' ⟨he, rfl⟩
    exact ⟨he, ⟨a, cap, rfl, hh, fun g => absurd g (Nat.lt_irrefl _)⟩, ⟨rfl, rfl, rfl, Nat.le_refl _, fun _ _ _ => rfl⟩⟩
  · obtain ⟨B, cap, N, rfl, h1, h2, hh, h3, Q, h4, h5⟩ := own_form h (by omega)
    refine (reverse_ok h4 h3 hm).mono ?_
    rintro e w' ⟨he, hb, hr⟩
    refine ⟨he, ⟨_, cap, rfl, Nat.le_trans hh hb.size, fun _ => ⟨B, N, _, rfl, h1, h2, h3, hr, fun i hi => ?_⟩⟩, ⟨hb.os, hb.tape, hb.output, hb.size, fun b hb1 hb2 => hb.block b hb1 (by omega)⟩⟩
    rw [if_pos hi, h5 _ (by omega)]

set_option maxRecDepth 100000 in
set_option maxHeartbeats 2000000 in
theorem implInv_full {n : Nat} {P : Nat → Pu} (hn : n ≤ 1048576) (hs : seqB n P = true) (w : World) (b off cap : Nat) (h : Rd w (.slice (some ⟨b, off, none⟩) n cap) n P) : Calls Try.prog 10 #[.slice (some ⟨b, off, none⟩) n cap] w fun e w' => ∃ u, e = .returned (.tuple #[u, .int .i64 0]) ∧ Below w.heap.size w w' ∧ Own w' u n (fun i => inv (P (n - 1 - i))) w.heap.size w'.heap.size ∧ ∃ b' cap', u = .slice (some ⟨b', 0, none⟩) n cap' ∧ n ≤ cap' := by
  have HI := Lib.hid (implIs_ok h hn)
  rw [hs] at HI
  have HT := Lib.hid (fun p w => turned_any p w)
  have hmk := make_room n hn
  obtain ⟨ti, ti1, z1, z2, z3⟩ := info_parts infoPulse
  obtain ⟨a, cap', hv, h⟩ := h
  injection hv with q1 _ q3
  subst q1 q3
  go_enter Try.func10, Try.ntmps10
  go_wp2_with fail
  refine HI.out.mono ?_
  rintro e w0 ⟨rfl, hb0⟩
  have HB0 := Lib.hid hb0
  have hsz0 := hb0.size
  clear hb0
  go_wp2_with fail
  have hown0 : (w0.alloc (.cells (madeCells #[.int .i64 0, .int .i64 0, .bool false] (n * 3)) 64)).ownsRow w.heap.size 64 3 (.slice (some ⟨w0.heap.size, 0, none⟩) 0 n) 0 [] :=
    World.ownsRow_made w0 _ n hsz0 (by unfold maxLen; omega) (by rw [size_madeCells])
  generalize madeCells #[Value.int .i64 0, .int .i64 0, .bool false] (n * 3) = cs at *
  go_loopw [4, 15] (fun v' i wr => ∃ k : Nat, k ≤ n ∧ i = .int .i64 k ∧ wr.ownsRow w.heap.size 64 3 v' k (cellsL ((List.range k).map fun j => inv (P j))) ∧ Below w.heap.size w wr ∧ v' ≠ .slice none 0 0) (fun _ i _ => n - (intOf i).toNat)
  case atStart => exact ⟨0, Nat.zero_le _, rfl, hown0, HB0.out.alloc hsz0 _, fun h => by cases h⟩
  case round =>
    obtain ⟨k, hk, rfl, hown, hb, hnn⟩ := hrel
    have HNN := Lib.hid hnn
    clear hnn
    by_cases hlt : k < n
    · obtain ⟨b', off', q5, hl, hc⟩ := h (by omega)
      injection q5 with q5
      injection q5 with q6 q7
      subst q6 q7
      obtain ⟨c0, c1, c2⟩ := hc k hlt
      rw [← hb.cell (p := ⟨b, _, none⟩) hl] at c0 c1 c2
      have hsz := hb.size
      have hl2 : b < wr.heap.size := Nat.lt_of_lt_of_le hl hsz
      have hlt' : (k : Int) < (n : Int) := by omega
      have HB := Lib.hid hb
      have HO := Lib.hid hown
      have T := HT.out (P k)
      unfold Pu.v at T
      have HTk := Lib.hid T
      clear hb hown hc h hmk hown0 T
      go_wp2_with fail
      refine (HTk.out _).mono ?_
      rintro e w2 ⟨rfl, hb2⟩
      have hsz2 := hb2.size
      simp only [World.size_setCell, World.size_alloc] at hsz2
      have hb3 : Below wr.heap.size wr w2 := ((Below.refl wr.heap.size wr).alloc (Nat.le_refl _) _).trans (hb2.mono (by simp))
      have HB2 := Lib.hid (HB.out.trans (Below.mono hb3 hsz))
      have HO2 := Lib.hid (owns_below HO.out hb3)
      have hsz3 := hb3.size
      clear hb2 hb3
      unfold inv
      go_wp2_with (at_builtin; refine stop_list ?_)
      unfold Hid
      refine wpList_append_own_at _ rfl _ _ 24 rfl w.heap.size 64 ti _ 3 24 Try.underlying24 ti1 z1 z2 z3 rfl (by decide) _ k _ rfl (by exact HO2.out.alloc _) ⟨w2.heap.size, 0, none⟩ 1 _ [.int .i64 (inv (P k)).ax, .int .i64 (inv (P k)).ha, .bool (inv (P k)).bk] rfl rfl (news_three (by simp [go_sem, inv]) (by simp [go_sem, inv]) (by simp [go_sem, inv])) one_three (by unfold maxLen; omega) (by omega) (by simp; omega) ?_
      intro v3 w3 hown hgrow hnil hblk
      have HO3 := Lib.hid hown
      have HB3 := Lib.hid (Below.grown (a := w) (by exact Below.alloc_own HB2.out _) hgrow (by simp; omega) (by intro g hg; exact (World.ownsRow.lt HO2.out g hg).1))
      have HN3 := Lib.hid (fun h => HNN.out (hnil.1 h).1)
      clear hown hgrow hnil hblk
      go_wp2_with fail
      go_roundw
      case rel =>
        refine ⟨k + 1, by omega, by go_num, ?_, HB3.out, HN3.out⟩
        rw [cellsL_next]
        exact HO3.out
      case measure => simp [intOf]; omega
    · have he : k = n := by omega
      subst he
      have hlt' : ¬ ((k : Int) < (k : Int)) := by omega
      have HB := Lib.hid hb
      have HF := Lib.hid (owns_some hown HNN.out)
      have HO := Lib.hid (own_congr (owns_own hown (by simp)) (Q := fun i => inv (P i)) (fun i hi => by simp [hi]))
      clear hb hown h
      go_wp2_with fail
      refine (reverse_own HO.out hn).mono ?_
      rintro e w2 ⟨⟨v2, rfl⟩, ho, hsv⟩
      have HO2 := Lib.hid ho
      have HB2 := Lib.hid (hsv.below HB.out (Nat.le_refl _))
      have HS2 := Lib.hid hsv.size
      clear ho hsv
      go_wp2_with fail
      go_ret2
      exact ⟨_, rfl, HB2.out, own_high HO2.out HS2.out (Nat.le_refl _), HF.out⟩

theorem implInv_yes {n : Nat} {P : Nat → Pu} (hn : n ≤ 1048576) (hs : seqB n P = true) : Gives 10 n P n (fun i => inv (P (n - 1 - i))) 0 :=
  fun w b off cap h => (implInv_full hn hs w b off cap h).mono fun _ _ ⟨u, h1, h2, h3, _⟩ => ⟨u, h1, h2, h3⟩

theorem implInv_no {n : Nat} {P : Nat → Pu} (hn : n ≤ 1048576) (hs : seqB n P = false) : Gives 10 n P 0 (fun _ => noPu) 1 := by
  intro w b off cap h
  have HI := Lib.hid (implIs_ok h hn)
  rw [hs] at HI
  clear h
  go_enter Try.func10, Try.ntmps10
  go_wp2_with fail
  refine HI.out.mono ?_
  rintro e w' ⟨rfl, hb⟩
  have HB := Lib.hid hb
  clear hb
  go_wp2_with fail
  go_ret2
  exact ⟨_, rfl, HB.out, ⟨none, 0, rfl, Nat.le_refl _, fun h0 => absurd h0 (Nat.lt_irrefl _)⟩⟩

theorem implInv {n : Nat} {P : Nat → Pu} (hn : n ≤ 1048576) : Gives 10 n P (if seqB n P then n else 0) (if seqB n P then fun i => inv (P (n - 1 - i)) else fun _ => noPu) (if seqB n P then 0 else 1) := by
  cases hs : seqB n P
  · exact implInv_no hn hs
  · exact implInv_yes hn hs

end Go.Proofs.Ytlglbinalocilaa
