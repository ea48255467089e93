/- Walks: drifts, as the program has them. -/
import Derived.Test.YtmaohbddmafifaaDu
import Derived.Test.YtmaohbddmafifaaOf
import Derived.Test.YtmaohbddmafifaaIw
namespace Go.Proofs.Ytmaohbddmafifaa
open Go.RowKit

theorem rd_begin {w : World} {b off cap n k c : Nat} {P : Nat → Pu} (h : Rd w (.slice (some ⟨b, off, none⟩) n cap) n P) (hk : k ≤ n) : Rd w (.slice (some ⟨b, off, none⟩) k c) k P := by
  refine ⟨_, c, rfl, fun h0 => ?_⟩
  obtain ⟨a, cap', hv, h⟩ := h
  injection hv with q1 _ q3
  subst q1 q3
  obtain ⟨b', off', q5, hl, hc⟩ := h (by omega)
  exact ⟨b', off', q5, hl, fun i hi => hc i (by omega)⟩

theorem infoF32 : (Try.prog.info? 60).map (fun i => (i.zero, i.size, i.bytes)) = some (some (.float .f32 0), 1, 4) := by kernel_rfl

theorem make_roomF (n : Nat) (hn : n ≤ 1048576) (w : World) :
    (Instr.makeSlice 37 (.int .i64 0) (.int .i64 (n : Int))).run Try.prog w = .ok (.slice (some ⟨w.heap.size, 0, none⟩) 0 n) (w.alloc (.cells (madeCells #[.float .f32 0] n) 60)) := by
  obtain ⟨i, hi1, z1, z2, z3⟩ := info_parts infoF32
  have := run_make (P := Try.prog) w 37 60 i _ Try.underlying37 hi1 z1 .i64 .i64 0 n (Int.le_refl _) (by omega) (by rw [z3]; omega) (by omega)
  rw [z2] at this
  have hc : (Value.float .f32 0).cells = #[.float .f32 0] := by kernel_rfl
  rw [hc] at this
  simpa using this

/-- The cells of the first k numbers. -/
def fl (F : Nat → Nat) (k : Nat) : List Value := (List.range k).map fun j => .float .f32 (F j)

theorem fl_next (F : Nat → Nat) (k : Nat) : fl F (k + 1) = fl F k ++ [.float .f32 (F k)] := by
  unfold fl
  rw [List.range_succ, List.map_append]
  rfl

theorem ownsf {w : World} {base m : Nat} {v : Value} {F : Nat → Nat} (h : w.ownsRow base 60 1 v m (fl F m)) : OwnV 60 w v m (fun i => .float .f32 (F i)) base w.heap.size := by
  obtain ⟨h1, ⟨rfl, rfl⟩ | ⟨g, cap, cur, rfl, hg, hb, hn, hm, hs, ht⟩⟩ := h
  · exact ⟨none, 0, rfl, Nat.le_refl _, fun h0 => absurd h0 (Nat.lt_irrefl _)⟩
  · refine ⟨_, cap, rfl, Nat.le_refl _, fun h0 => ⟨g, cap, fun j => (cur[j]?).getD undef, rfl, hg, (Array.getElem?_eq_some_iff.1 hb).1, hn, ⟨cur, hb, by omega, fun i hi => ?_⟩, fun i hi => ?_⟩⟩
    · simp only [Array.getElem?_eq_getElem (show i < cur.size by omega), Option.getD_some]
    · have e : (fl F m)[i]? = some (.float .f32 (F i)) := by unfold fl; simp [hi]
      rw [← ht, List.getElem?_take_of_lt (by omega), Array.getElem?_toList] at e
      simp only [e, Option.getD_some]

theorem news_one {W : World} {H : Nat} {v0 : Value} (h0 : W.cell? ⟨H, 0, none⟩ = some v0) : ∀ j u, ([v0] : List Value)[j]? = some u → W.cell? ((⟨H, 0, none⟩ : Addr).add j) = some u := by
  intro j u hj
  match j, hj with
  | 0, hj => simp at hj; subst hj; simpa [Addr.add] using h0
  | j + 1, hj => simp at hj

theorem one_float {x : Nat} : ∀ u ∈ ([.float .f32 x] : List Value), u.oneCell' = true := by
  intro u hu
  simp at hu
  subst hu
  rfl

theorem seqB_take {n k : Nat} {P : Nat → Pu} (hs : seqB n P = true) (hk : k ≤ n) : seqB k P = true := by
  unfold seqB at *
  simp only [Bool.and_eq_true, List.all_eq_true, List.mem_range, decide_eq_true_eq] at *
  exact ⟨fun i hi => hs.1 i (by omega), by omega⟩

set_option maxRecDepth 100000 in
set_option maxHeartbeats 4000000 in
theorem implDrifts_yes {n : Nat} {P : Nat → Pu} (hn : n ≤ 60) (hs : seqB n P = true) : GivesV 60 28 n P (n + 1) (fun i => .float .f32 (driftI (tabI P i))) 0 := by
  intro w b off cap hcap h
  have HI := Lib.hid (implIs_ok h (by omega))
  rw [hs] at HI
  have H := Lib.hid h
  have HOK := Lib.hid (fun i (hi : i < n) => by
    have := hs
    unfold seqB at this
    simp only [Bool.and_eq_true, List.all_eq_true, List.mem_range] at this
    exact this.1 i hi)
  have HSQ := Lib.hid hs
  have hmk := make_roomF (n + 1) (by omega)
  rw [show (((n + 1 : Nat)) : Int) = (n : Int) + 1 by omega] at hmk
  obtain ⟨ti, ti1, z1, z2, z3⟩ := info_parts infoF32
  clear h hs
  go_enter Try.func28, Try.ntmps28
  go_wp2_with fail
  refine HI.out.mono ?_
  rintro e w1 ⟨rfl, hb1⟩
  have HB1 := Lib.hid hb1
  have hsz1 := hb1.size
  clear hb1
  go_wp2_with fail
  have hown0 : (w1.alloc (.cells (madeCells #[.float .f32 0] (n + 1)) 60)).ownsRow w.heap.size 60 1 (.slice (some ⟨w1.heap.size, 0, none⟩) 0 (n + 1)) 0 [] :=
    World.ownsRow_made w1 _ (n + 1) hsz1 (by unfold maxLen; omega) (by rw [size_madeCells]; omega)
  generalize madeCells #[Value.float .f32 0] (n + 1) = cs at *
  go_loopw [4, 19] (fun v i wr => ∃ k : Nat, i = .int .i64 k ∧ k ≤ n + 1 ∧ wr.ownsRow w.heap.size 60 1 v k (fl (fun j => driftI (tabI P j)) k) ∧ Below w.heap.size w wr) (fun _ i _ => n + 1 - (intOf i).toNat)
  case atStart => exact ⟨0, rfl, Nat.zero_le _, hown0, HB1.out.alloc hsz1 _⟩
  case round =>
    obtain ⟨k, rfl, hk, hown, hb⟩ := hrel
    by_cases hlt : k < n + 1
    · have hlt' : (k : Int) < (n : Int) + 1 := by omega
      have hk0 : (0 : Int) ≤ (k : Int) := by omega
      have hkc : (k : Int) ≤ (cap : Int) := by omega
      obtain ⟨t1, t2, t3⟩ := tabs_ok HOK.out k (by omega) (by omega)
      have HT := Lib.hid (tableOf_ok (rd_begin (c := cap) (rd_below H.out hb) (show k ≤ n by omega)) (by omega) (seqB_take HSQ.out (by omega)))
      have HD := Lib.hid (fun w => by have := implDrift_ok t3 (by omega) w; rw [four] at this; exact this)
      have hfl := fl_next (fun j => driftI (tabI P j)) k
      have HF := Lib.hid hfl
      have HB := Lib.hid hb
      have HO := Lib.hid hown
      generalize driftI (tabI P k) = d at *
      generalize tabI P k = M at *
      clear hb hown t1 t2 t3 hmk hown0 hfl
      go_wp2_with fail
      refine HT.out.mono ?_
      rintro e w2 ⟨rfl, hb2⟩
      have HB2 := Lib.hid (HB.out.trans (hb2.mono HB.out.size))
      have HO2 := Lib.hid (owns_below HO.out hb2)
      clear hb2
      go_wp2_with fail
      refine (HD.out _).mono ?_
      rintro e w3 ⟨rfl, hb3⟩
      have HB3 := Lib.hid (Below.trans (HB2.out.alloc HB2.out.size _) (hb3.mono (by have := HB2.out.size; simp; omega)))
      have HO3 := Lib.hid (owns_below (HO2.out.alloc _) hb3)
      have hsz3 := HB3.out.size
      clear hb3
      go_wp2_with (at_builtin; refine stop_list ?_)
      unfold Hid
      refine wpList_append_own_at _ rfl _ _ 37 rfl w.heap.size 60 ti _ 1 4 Try.underlying37 ti1 z1 z2 z3 rfl (by decide) _ k _ rfl (by exact HO3.out.alloc _) ⟨w3.heap.size, 0, none⟩ 1 _ [.float .f32 d] rfl rfl (news_one (by simp [go_sem])) one_float (by unfold maxLen; omega) (by omega) (by simp; omega) ?_
      intro v4 w4 hown hgrow hnil hblk
      have HO4 := Lib.hid hown
      have HB4 := Lib.hid (Below.grown (a := w) (by exact Below.alloc_own HB3.out _) hgrow (by simp; omega) (by intro g hg; exact (World.ownsRow.lt HO3.out g hg).1))
      clear hown hgrow hnil hblk
      go_wp2_with fail
      go_roundw
      case rel =>
        refine ⟨k + 1, by go_num, by omega, ?_, HB4.out⟩
        rw [HF.out]
        exact HO4.out
      case measure => simp [intOf]; omega
    · have he : k = n + 1 := by omega
      subst he
      have hlt' : ¬ (((n + 1 : Nat) : Int) < (n : Int) + 1) := by omega
      have HB := Lib.hid hb
      have HO := Lib.hid (ownsf hown)
      clear hb hown hmk hown0
      go_wp2_with fail
      go_ret2
      exact ⟨_, rfl, HB.out, HO.out⟩

theorem implDrifts_no {n : Nat} {P : Nat → Pu} (hn : n ≤ 1048576) (hs : seqB n P = false) : GivesV 60 28 n P 0 (fun _ => .float .f32 0) 1 := by
  intro w b off cap _ h
  have HI := Lib.hid (implIs_ok h hn)
  rw [hs] at HI
  clear h
  go_enter Try.func28, Try.ntmps28
  go_wp2_with fail
  refine HI.out.mono ?_
  rintro e w' ⟨rfl, hb⟩
  have HB := Lib.hid hb
  clear hb
  go_wp2_with fail
  go_ret2
  exact ⟨_, rfl, HB.out, ownv_none _ _ _ _⟩

def driftF (n : Nat) (P : Nat → Pu) (i : Nat) : Nat := if seqB n P then driftI (tabI P i) else 0

/-- The drifts: how many, which, and the code. -/
theorem implDrifts {n : Nat} {P : Nat → Pu} (hn : n ≤ 1048576) : GivesV 60 28 n P (if seqB n P then n + 1 else 0) (fun i => .float .f32 (driftF n P i)) (if seqB n P then 0 else 1) := by
  unfold driftF
  cases hs : seqB n P
  · exact implDrifts_no hn hs
  · exact implDrifts_yes (by unfold seqB at hs; simp only [Bool.and_eq_true, decide_eq_true_eq] at hs; exact hs.2) hs
end Go.Proofs.Ytmaohbddmafifaa
