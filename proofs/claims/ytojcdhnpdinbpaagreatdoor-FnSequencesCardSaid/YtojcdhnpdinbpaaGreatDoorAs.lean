/- Walks: angles, as the specification has them: whole. -/
import Derived.Test.YtojcdhnpdinbpaaGreatDoorAn
import Derived.BigQuiet
namespace Go.Proofs.YtojcdhnpdinbpaaGreatDoor
open Go.RowKit

set_option maxRecDepth 100000 in
set_option maxHeartbeats 4000000 in
theorem specAngles_yes {n : Nat} {P : Nat → Pu} (hn : n ≤ 60) (hs : seqB n P = true) : GivesV 2 24 n P 3 (fun i => .int .i64 (ang P i n)) 0 := by
  intro w b off cap _ h
  have HI := Lib.hid (l05Is_ok h (by omega))
  rw [hs] at HI
  have HOK := Lib.hid (fun i (hi : i < n) => by
    have := hs
    unfold seqB at this
    simp only [Bool.and_eq_true, List.all_eq_true, List.mem_range] at this
    exact this.1 i hi)
  have hmk := make_three
  obtain ⟨a, cap', hv, h⟩ := h
  injection hv with q1 _ q3
  subst q1 q3
  go_enter Tryz.func24, Tryz.ntmps24
  go_wp2_with fail
  refine HI.out.mono ?_
  rintro e w' ⟨rfl, rfl⟩
  go_wp2_with fail
  have hrow := World.rowIs_made w (.int .i64 0) 3 2
  generalize madeCells #[Value.int .i64 0] 3 = cs at *
  go_loopw [5] (fun i wr => ∃ k : Nat, i = .int .i64 k ∧ k ≤ n ∧ Below w.heap.size w wr ∧ wr.rowIs w.heap.size 2 3 (fun i => .int .i64 (ang P i k))) (fun i _ => n - (intOf i).toNat)
  case atStart => exact ⟨0, rfl, Nat.zero_le _, (Below.refl _ _).alloc (Nat.le_refl _) _, hrow⟩
  case round =>
    obtain ⟨k, rfl, hk, hb, hr⟩ := hrel
    by_cases hlt : k < n
    · obtain ⟨b', off', q5, hl, hc⟩ := h (by omega)
      injection q5 with q5
      injection q5 with q6 q7
      subst q6 q7
      obtain ⟨c0, c1, c2⟩ := hc k hlt
      rw [← hb.cell (p := ⟨b, _, none⟩) hl] at c0 c1 c2
      have hl2 : b < wr.heap.size := Nat.lt_of_lt_of_le hl hb.size
      have hlt' : (k : Int) < (n : Int) := by omega
      have hok := HOK.out k hlt
      have hang : ∀ ax, ang P ax (k + 1) = ang P ax k + (if (P k).ax = ax then sgn (P k) else 0) := fun _ => rfl
      have r0 := World.rowIs.cell hr (i := 0) (by omega)
      have r1 := World.rowIs.cell hr (i := 1) (by omega)
      have r2 := World.rowIs.cell hr (i := 2) (by omega)
      have f0 := World.rowIs.frozen hr 0
      have f1 := World.rowIs.frozen hr 1
      have f2 := World.rowIs.frozen hr 2
      have hz := World.rowIs.lt hr
      have HB := Lib.hid hb
      have HR := Lib.hid hr
      have b0 := ang_bd P 0 k
      have b1 := ang_bd P 1 k
      have b2 := ang_bd P 2 k
      generalize hP : P k = p at *
      obtain ⟨ax, ha, bk⟩ := p
      unfold okP at hok
      simp only [Bool.and_eq_true, decide_eq_true_eq] at hok c0 c1 c2
      obtain ⟨⟨x1, x2⟩, y1, y2⟩ := hok
      have hsub : (0 : Int) ≤ 24 - ha := by omega
      have hsub2 : (24 : Int) - ha ≤ 24 := by omega
      obtain ⟨s, hs0⟩ : ∃ s : Int, s = 2 ^ (24 - ha.toNat) := ⟨_, rfl⟩
      have hsb := pow_bd (24 - ha.toNat) (by omega)
      rw [← hs0] at hsb
      have hsg : sgn ⟨ax, ha, bk⟩ = if bk then -s else s := by unfold sgn; rw [hs0]
      have hw : wrap64 (2 ^ ((24 : Int) - ha).toNat) = s := by
        rw [show ((24 : Int) - ha).toNat = 24 - ha.toNat by omega, ← hs0]
        unfold wrap64
        omega
      rw [hsg] at hang
      obtain ⟨s0, s1⟩ := hsb
      have hax : ax = 0 ∨ ax = 1 ∨ ax = 2 := by omega
      have hk60 : k ≤ 60 := by omega
      obtain ⟨b00, b01⟩ := b0
      obtain ⟨b10, b11⟩ := b1
      obtain ⟨b20, b21⟩ := b2
      have HA := Lib.hid hang
      have r0 : wr.cell? ⟨w.heap.size, 0, none⟩ = some (.int .i64 (ang P 0 k)) := r0
      have r1 : wr.cell? ⟨w.heap.size, 1, none⟩ = some (.int .i64 (ang P 1 k)) := r1
      have r2 : wr.cell? ⟨w.heap.size, 2, none⟩ = some (.int .i64 (ang P 2 k)) := r2
      clear hb hr h hc hmk hrow HI hs0 hsg hang
      generalize hA0 : ang P 0 k = A0 at *
      generalize hA1 : ang P 1 k = A1 at *
      generalize hA2 : ang P 2 k = A2 at *
      have HG := Lib.hid (And.intro hA0 (And.intro hA1 hA2))
      clear hA0 hA1 hA2
      rcases hax with rfl | rfl | rfl
      all_goals
        cases bk
        all_goals
          go_wp2_with fail
          go_region
          all_goals
            go_wp2_with fail
            go_roundw
            case rel =>
              refine ⟨k + 1, by go_num, by omega, ?_, ?_⟩
              · exact (HB.out.setCell (Nat.le_refl _) _).drew
              · refine World.rowIs.congr (World.rowIs.drew (World.rowIs.set HR.out _ _)) ?_
                intro i hi
                have h3 : i = 0 ∨ i = 1 ∨ i = 2 := by omega
                rcases h3 with rfl | rfl | rfl
                all_goals
                  rw [HA.out]
                  simp [HG.out.1, HG.out.2.1, HG.out.2.2]
            case measure => simp [intOf]; omega
    · have he : k = n := by omega
      subst he
      have hlt' : ¬ ((k : Int) < (k : Int)) := by omega
      have HB := Lib.hid hb
      have HR := Lib.hid hr
      clear hb hr h hmk hrow HI
      go_wp2_with fail
      go_ret2
      exact ⟨_, rfl, HB.out, ⟨_, 3, rfl, Nat.le_refl _, fun _ => ⟨w.heap.size, 3, _, rfl, Nat.le_refl _, World.rowIs.lt HR.out, Nat.le_refl _, HR.out, fun _ _ => rfl⟩⟩⟩

theorem specAngles_no {n : Nat} {P : Nat → Pu} (hn : n ≤ 1048576) (hs : seqB n P = false) : GivesV 2 24 n P 0 (fun _ => .int .i64 0) 1 := by
  intro w b off cap _ h
  have HI := Lib.hid (l05Is_ok h hn)
  rw [hs] at HI
  clear h
  go_enter Tryz.func24, Tryz.ntmps24
  go_wp2_with fail
  refine HI.out.mono ?_
  rintro e w' ⟨rfl, rfl⟩
  go_wp2_with fail
  go_ret2
  exact ⟨_, rfl, Below.refl _ _, ownv_none _ _ _ _⟩

def angF (n : Nat) (P : Nat → Pu) (i : Nat) : Int := if seqB n P then ang P i n else 0

/-- The angles: how many, which, and the code. -/
theorem specAngles {n : Nat} {P : Nat → Pu} (hn : n ≤ 1048576) : GivesV 2 24 n P (if seqB n P then 3 else 0) (fun i => .int .i64 (angF n P i)) (if seqB n P then 0 else 1) := by
  unfold angF
  cases hs : seqB n P
  · exact specAngles_no hn hs
  · exact specAngles_yes (by unfold seqB at hs; simp only [Bool.and_eq_true, decide_eq_true_eq] at hs; exact hs.2) hs
end Go.Proofs.YtojcdhnpdinbpaaGreatDoor
