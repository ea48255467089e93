/- Walks: slices.Grow, slices.Concat of two lists of pulses. -/
import Derived.Test.YtojcdhnpdinbpaaGreatDoorIw
import Derived.Lib.AppendZeros
namespace Go.Proofs.YtojcdhnpdinbpaaGreatDoor
open Go.RowKit

set_option maxRecDepth 100000 in
set_option maxHeartbeats 1000000 in
theorem grow_ok (n : Nat) (hn : n ≤ 1048576) (w : World) :
    Calls Tryz.prog 56 #[.slice none 0 0, .int .i64 (n : Int)] w fun e w' => ∃ v, e = .returned v ∧ w'.ownsRow w.heap.size 43 3 v 0 [] ∧ Below w.heap.size w w' := by
  by_cases h0 : n = 0
  · subst h0
    go_enter Tryz.func56, Tryz.ntmps56
    go_wp2_with fail
    go_ret
    exact ⟨_, rfl, ⟨rfl, .inl ⟨rfl, rfl⟩⟩, Below.refl _ _⟩
  · have hp : (0 : Int) < (n : Int) := by omega
    have hp2 : ¬ (n : Int) < 0 := by omega
    obtain ⟨i, hi1, z1, z2, z3⟩ := info_parts infoPulse
    have hrun := Lib.run_append_nil_zeros (P := Tryz.prog) w 24 3 24 43 i _ .i64 .i64 Tryz.underlying24 Tryz.underlying3 hi1 z1 n (by omega) (by rw [z2]; omega) (by omega) (by rw [z3]; omega)
    have hge := grownCap_ge w n 0 43
    have hle := grownCap_le_maxLen w n 0 43 (by unfold maxLen; omega)
    have hsz : (Builtin.zeroCells (Value.agg #[.int .i64 0, .int .i64 0, .bool false]).cells n ++ Builtin.zeroCells (Value.agg #[.int .i64 0, .int .i64 0, .bool false]).cells (grownCap w n 0 43 - n)).size = grownCap w n 0 43 * 3 := by
      have hc : (Value.agg #[.int .i64 0, .int .i64 0, .bool false]).cells.size = 3 := by kernel_rfl
      rw [Array.size_append, size_zeroCells, size_zeroCells, hc]; omega
    generalize Builtin.zeroCells (Value.agg #[.int .i64 0, .int .i64 0, .bool false]).cells n ++ Builtin.zeroCells (Value.agg #[.int .i64 0, .int .i64 0, .bool false]).cells (grownCap w n 0 43 - n) = cs at *
    generalize grownCap w n 0 43 = cap at *
    clear z1 z2 z3 hi1
    have HR := Lib.hid hrun
    have HS := Lib.hid (And.intro hle hsz)
    clear hrun hsz
    go_enter Tryz.func56, Tryz.ntmps56
    go_wp2_with (at_builtin; refine stop_list ?_)
    unfold Hid
    refine Lib.wpList_append_run _ rfl _ _ _ _ rfl _ _ rfl rfl _ _ HR.out ?_
    go_wp2_with fail
    go_ret
    exact ⟨_, rfl, World.ownsRow_made w.drew cs cap (Nat.le_refl _) HS.out.1 HS.out.2, ((Below.refl _ _).drew.alloc (Nat.le_refl _) _)⟩

set_option maxRecDepth 100000 in
set_option maxHeartbeats 2000000 in
theorem concat_ok {w : World} {S b off cap b' off' cap' n m : Nat} {P Q : Nat → Pu} (hA : Rd w (.slice (some ⟨b, off, none⟩) n cap) n P) (hB : Rd w (.slice (some ⟨b', off', none⟩) m cap') m Q)
    (h0 : w.cell? ⟨S, 0, none⟩ = some (.slice (some ⟨b, off, none⟩) n cap)) (h1 : w.cell? ⟨S, 1, none⟩ = some (.slice (some ⟨b', off', none⟩) m cap')) (hn : n ≤ 1048576) (hm : m ≤ 1048576) (hnm : n + m ≤ 1048576) :
    Calls Tryz.prog 40 #[.slice (some ⟨S, 0, none⟩) 2 2] w fun e w' => ∃ v, e = .returned v ∧ w'.ownsRow w.heap.size 43 3 v (n + m) (cellsL ((List.range n).map P ++ (List.range m).map Q)) ∧ Below w.heap.size w w' := by
  have hS : S < w.heap.size := cell_size h0
  obtain ⟨ti, ti1, z1, z2, z3⟩ := info_parts infoPulse
  have HG := Lib.hid (fun w => grow_ok (n + m) hnm w)
  have HNA : Hid (News b off (cellsL ((List.range n).map P)) w) := Lib.hid (rd_news hA)
  have HNB : Hid (News b' off' (cellsL ((List.range m).map Q)) w) := Lib.hid (rd_news hB)
  have HLA : Hid ((cellsL ((List.range n).map P)).length = n * 3) := Lib.hid (by rw [cellsL_length]; simp)
  have HLB : Hid ((cellsL ((List.range m).map Q)).length = m * 3) := Lib.hid (by rw [cellsL_length]; simp)
  have HCA : Hid (∀ u ∈ cellsL ((List.range n).map P), u.oneCell' = true) := Lib.hid (one_cells _)
  have HCB : Hid (∀ u ∈ cellsL ((List.range m).map Q), u.oneCell' = true) := Lib.hid (one_cells _)
  have HE : Hid (cellsL ((List.range n).map P ++ (List.range m).map Q) = cellsL ((List.range n).map P) ++ cellsL ((List.range m).map Q)) := Lib.hid (by unfold cellsL; rw [List.flatMap_append])
  have HC0 := Lib.hid h0
  have HC1 := Lib.hid h1
  generalize cellsL ((List.range n).map P ++ (List.range m).map Q) = nab at *
  generalize cellsL ((List.range n).map P) = na at *
  generalize cellsL ((List.range m).map Q) = nb at *
  have hnm1 : (0 : Int) ≤ (n : Int) := by omega
  have hnm2 : (0 : Int) ≤ (n : Int) + (m : Int) := by omega
  have hnm3 : (n : Int) + (m : Int) ≤ 1048576 := by omega
  clear hA hB
  go_enter Tryz.func40, Tryz.ntmps40
  go_wp2_with fail
  go_loopw [3, 11] (fun s i wr => w = wr ∧ ((i = .int .i64 0 ∧ s = .int .i64 0) ∨ (i = .int .i64 1 ∧ s = .int .i64 n) ∨ (i = .int .i64 2 ∧ s = .int .i64 ((n : Int) + m)))) (fun _ i _ => (2 - intOf i).toNat)
  case atStart => exact ⟨rfl, .inl ⟨rfl, rfl⟩⟩
  case round =>
    obtain ⟨rfl, ⟨rfl, rfl⟩ | ⟨rfl, rfl⟩ | ⟨rfl, rfl⟩⟩ := hrel
    · go_wp2_with fail
      go_roundw
      case rel => exact ⟨trivial, .inr (.inl ⟨rfl, by simp⟩)⟩
      case measure => simp [intOf]
    · go_wp2_with fail
      go_roundw
      case rel => exact ⟨trivial, .inr (.inr ⟨rfl, by go_num⟩)⟩
      case measure => simp [intOf]
    · go_wp2_with fail
      have HG2 := HG.out w
      rw [show (((n + m : Nat) : Int)) = (n : Int) + (m : Int) by omega] at HG2
      refine HG2.mono ?_
      rintro e w1 ⟨v1, rfl, ho1, hb1⟩
      have HB1 := Lib.hid hb1
      have HO1 := Lib.hid ho1
      clear ho1 hb1 HG2 h0 h1
      go_wp2_with fail
      go_loopw [6, 27] (fun v i wr => Below w.heap.size w wr ∧ ((i = .int .i64 0 ∧ wr.ownsRow w.heap.size 43 3 v 0 []) ∨ (i = .int .i64 1 ∧ wr.ownsRow w.heap.size 43 3 v (0 + n) ([] ++ na)) ∨ (i = .int .i64 2 ∧ wr.ownsRow w.heap.size 43 3 v (0 + n + m) ([] ++ na ++ nb)))) (fun _ i _ => (2 - intOf i).toNat)
      case atStart => exact ⟨HB1.out, .inl ⟨rfl, HO1.out⟩⟩
      case round =>
        obtain ⟨hb, ⟨rfl, ho⟩ | ⟨rfl, ho⟩ | ⟨rfl, ho⟩⟩ := hrel
        · have c0 := (hb.cell (p := ⟨S, 0, none⟩) hS).trans HC0.out
          have HB := Lib.hid hb
          have HO := Lib.hid ho
          clear hb ho
          go_wp2_with (at_builtin; refine stop_list ?_)
          unfold Hid
          refine wpList_append_own_at _ rfl _ _ 24 rfl w.heap.size 43 ti _ 3 24 Tryz.underlying24 ti1 z1 z2 z3 rfl (by decide) _ 0 _ rfl HO.out ⟨b, off, none⟩ n _ na rfl HLA.out (HNA.out.kept HB.out) HCA.out (by unfold maxLen; omega) (by omega) HB.out.size ?_
          intro v3 w3 hown hgrow hnil hblk
          have HO3 := Lib.hid hown
          have HB3 := Lib.hid (Below.grown (a := w) HB.out hgrow HB.out.size (by intro g hg; exact (World.ownsRow.lt HO.out g hg).1))
          clear hown hgrow hnil hblk
          go_wp2_with fail
          go_roundw
          case rel => exact ⟨HB3.out, .inr (.inl ⟨rfl, HO3.out⟩)⟩
          case measure => simp [intOf]
        · have c0 := (hb.cell (p := ⟨S, 1, none⟩) hS).trans HC1.out
          have HB := Lib.hid hb
          have HO := Lib.hid ho
          clear hb ho
          go_wp2_with (at_builtin; refine stop_list ?_)
          unfold Hid
          refine wpList_append_own_at _ rfl _ _ 24 rfl w.heap.size 43 ti _ 3 24 Tryz.underlying24 ti1 z1 z2 z3 rfl (by decide) _ (0 + n) _ rfl HO.out ⟨b', off', none⟩ m _ nb rfl HLB.out (HNB.out.kept HB.out) HCB.out (by unfold maxLen; omega) (by omega) HB.out.size ?_
          intro v3 w3 hown hgrow hnil hblk
          have HO3 := Lib.hid hown
          have HB3 := Lib.hid (Below.grown (a := w) HB.out hgrow HB.out.size (by intro g hg; exact (World.ownsRow.lt HO.out g hg).1))
          clear hown hgrow hnil hblk
          go_wp2_with fail
          go_roundw
          case rel => exact ⟨HB3.out, .inr (.inr ⟨rfl, HO3.out⟩)⟩
          case measure => simp [intOf]
        · have HB := Lib.hid hb
          have HO := Lib.hid ho
          clear hb ho
          go_wp2_with fail
          go_ret
          refine ⟨_, rfl, ?_, HB.out⟩
          rw [HE.out]
          have := HO.out
          rw [Nat.zero_add, List.nil_append] at this
          exact this
end Go.Proofs.YtojcdhnpdinbpaaGreatDoor
