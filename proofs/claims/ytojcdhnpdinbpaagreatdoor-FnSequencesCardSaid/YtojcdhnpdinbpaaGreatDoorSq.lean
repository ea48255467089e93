/- Walks: shortening, as the specification has it. -/
import Derived.Test.YtojcdhnpdinbpaaGreatDoorSp
namespace Go.Proofs.YtojcdhnpdinbpaaGreatDoor
open Go.RowKit

def lenOf : Value → Nat | .slice _ n _ => n | _ => 0
def more (v : Value) : Bool := match v with | .bool b => b | _ => false

theorem owns_form {w : World} {base n size : Nat} {e : TypeId} {v : Value} {xs : List Value} (h : w.ownsRow base e size v n xs) : ∃ a cap, v = .slice a n cap ∧ n ≤ cap := by
  obtain ⟨h1, ⟨rfl, rfl⟩ | ⟨g, cap, cur, rfl, hg, hk, hn, hm, hs, ht⟩⟩ := h
  · exact ⟨_, _, rfl, Nat.le_refl _⟩
  · exact ⟨_, _, rfl, hn⟩

/-- A list, by its elements. -/
theorem map_getD (L : List Pu) : (List.range L.length).map (fun i => L.getD i noPu) = L := by
  apply List.ext_getElem
  · simp
  · intro i h1 h2
    simp [List.getD, h2]

set_option maxRecDepth 100000 in
/-- A step at a list of the call's own. -/
theorem step_own {w : World} {base : Nat} {v : Value} {L : List Pu} (h : w.ownsRow base 43 3 v L.length (cellsL L)) (hn : L.length ≤ 60) (hok : ∀ x ∈ L, okP x = true) (hb : base ≤ w.heap.size) :
    Calls Tryz.prog 39 #[v] w fun e w' => ∃ v' r L', e = .returned (.tuple #[v', .bool r]) ∧ Below w.heap.size w w' ∧ w'.ownsRow base 43 3 v' L'.length (cellsL L') ∧ short L = short L' ∧ (∀ x ∈ L', okP x = true) ∧
      (r = false → L' = L ∧ short L = L) ∧ (r = true → L'.length < L.length) := by
  by_cases h0 : L.length = 0
  · obtain ⟨a, cap, rfl, _⟩ := owns_form h
    have e0 : L = [] := List.eq_nil_of_length_eq_zero h0
    subst e0
    refine (step_zero a cap w).mono ?_
    rintro e w' ⟨rfl, rfl⟩
    exact ⟨_, false, [], rfl, Below.refl _ _, h, rfl, hok, fun _ => ⟨rfl, short_stays rfl⟩, fun h => by cases h⟩
  · obtain ⟨a, cap, rfl, hcap⟩ := owns_form h
    obtain ⟨g, cap', hv, hg1, hg2⟩ := h.form (by omega)
    injection hv with q1 _ q3
    subst q1 q3
    have hR := own_rd (owns_own h rfl)
    have hm := map_getD L
    refine (step_ok hR (by omega) hn hcap (fun i hi => hok _ (by simp [List.getD, hi]))).mono ?_
    rintro e w' ⟨hbw, ⟨rfl, hs⟩ | ⟨v', L', rfl, ho, hs, hl, hk⟩⟩
    · rw [hm] at hs
      exact ⟨_, false, L, rfl, hbw, owns_below h hbw, rfl, hok, fun _ => ⟨rfl, hs⟩, fun h => by cases h⟩
    · rw [hm] at hs
      exact ⟨v', true, L', rfl, hbw, owns_wide ho hb, hs, hk, (fun h => by cases h), fun _ => hl⟩

theorem seqB_ok {n : Nat} {P : Nat → Pu} (hs : seqB n P = true) : ∀ i, i < n → okP (P i) = true := by
  intro i hi
  unfold seqB at hs
  simp only [Bool.and_eq_true, List.all_eq_true, List.mem_range] at hs
  exact hs.1 i hi

set_option maxRecDepth 100000 in
set_option maxHeartbeats 2000000 in
theorem specShort_yes {n : Nat} {P : Nat → Pu} (hn : n ≤ 60) (hs : seqB n P = true) : Gives 17 n P (short ((List.range n).map P)).length (fun i => (short ((List.range n).map P)).getD i noPu) 0 := by
  intro w b off cap h
  have HI := Lib.hid (l05Is_ok h (by omega))
  rw [hs] at HI
  obtain ⟨ti, ti1, z1, z2, z3⟩ := info_parts infoPulse
  have HN : Hid (News b off (cellsL ((List.range n).map P)) w) := Lib.hid (rd_news h)
  have HL : Hid ((cellsL ((List.range n).map P)).length = n * 3) := Lib.hid (by rw [cellsL_length]; simp)
  have HC : Hid (∀ u ∈ cellsL ((List.range n).map P), u.oneCell' = true) := Lib.hid (one_cells _)
  have HOK : Hid (∀ x ∈ (List.range n).map P, okP x = true) := Lib.hid (by
    intro x hx
    obtain ⟨i, hi, rfl⟩ := List.mem_map.1 hx
    exact seqB_ok hs i (List.mem_range.1 hi))
  have HLL : Hid (((List.range n).map P).length = n) := Lib.hid (by simp)
  clear h
  generalize (List.range n).map P = L0 at *
  generalize hnl : cellsL L0 = nl at *
  have HE := Lib.hid hnl
  clear hnl
  go_enter Tryz.func17, Tryz.ntmps17
  go_wp2_with fail
  refine HI.out.mono ?_
  rintro e w' ⟨rfl, rfl⟩
  go_wp2_with (at_builtin; refine stop_list ?_)
  unfold Hid
  refine wpList_append_own_at _ rfl _ _ 24 rfl w.heap.size 43 ti _ 3 24 Tryz.underlying24 ti1 z1 z2 z3 rfl (by decide) _ (0) [] rfl (by exact World.ownsRow_made _ #[] 0 (by simp) (Nat.zero_le _) rfl) ⟨b, off, none⟩ n _ nl rfl HL.out (HN.out.kept (by exact Below.alloc_own (Below.refl _ _) _)) HC.out (by unfold maxLen; omega) (by omega) (by simp) ?_
  intro v1 w1 hown hgrow hnil hblk
  have HO1 : Hid (w1.ownsRow w.heap.size 43 3 v1 L0.length (cellsL L0)) := Lib.hid (by
    rw [HE.out, HLL.out]
    rw [Nat.zero_add, List.nil_append] at hown
    exact hown)
  have HB1 := Lib.hid (Below.grown (a := w) (by exact Below.alloc_own (Below.refl _ _) _) hgrow (by simp) (by intro g hg; exact Nat.le_of_eq (Option.some.inj hg)))
  clear hown hgrow hnil hblk
  go_wp2_with fail
  go_loopw [4, 5] (fun v m wr => ∃ (L : List Pu) (r : Bool), m = .bool r ∧ wr.ownsRow w.heap.size 43 3 v L.length (cellsL L) ∧ Below w.heap.size w wr ∧ short L0 = short L ∧ (∀ x ∈ L, okP x = true) ∧ L.length ≤ n ∧ (r = false → short L = L)) (fun v m _ => if more m then lenOf v + 1 else 0)
  case atStart => exact ⟨L0, true, rfl, HO1.out, HB1.out, rfl, HOK.out, Nat.le_of_eq HLL.out, fun h => by cases h⟩
  case round =>
    obtain ⟨L, r, rfl, ho, hb, hsh, hok, hle, hfin⟩ := hrel
    cases r
    · have HB := Lib.hid hb
      have HO := Lib.hid (owns_own ho rfl)
      have hs0 := hsh.trans (hfin rfl)
      have HS := Lib.hid hs0
      clear ho hb hsh hfin hok hs0
      go_wp2_with fail
      go_ret2
      refine ⟨_, rfl, HB.out, ?_⟩
      rw [HS.out]
      exact HO.out
    · obtain ⟨a, c, rfl, _⟩ := owns_form ho
      have HSt := Lib.hid (step_own ho (by omega) hok hb.size)
      have HB := Lib.hid hb
      have HS := Lib.hid hsh
      clear ho hb hsh hfin hok
      go_wp2_with fail
      refine HSt.out.mono ?_
      rintro e w2 ⟨v', r, L', rfl, hb2, ho2, hs2, hok2, hf2, ht2⟩
      have HB2 := Lib.hid (HB.out.trans (hb2.mono HB.out.size))
      have HO2 := Lib.hid ho2
      have HS2 := Lib.hid (HS.out.trans hs2)
      have HF := Lib.hid hf2
      have HT := Lib.hid ht2
      have HK := Lib.hid hok2
      have HZ := Lib.hid hs2
      clear hb2 ho2 hs2 hok2 hf2 ht2
      go_wp2_with fail
      go_roundw
      case rel =>
        refine ⟨L', r, rfl, HO2.out, HB2.out, HS2.out, HK.out, ?_, ?_⟩
        · cases r
          · rw [(HF.out rfl).1]; exact hle
          · have := HT.out rfl; omega
        · intro hr
          have := HF.out hr
          rw [this.1]; exact this.2
      case measure =>
        obtain ⟨a', c', rfl, _⟩ := owns_form HO2.out
        cases r
        · simp [more]
        · have := HT.out rfl
          simp [more, lenOf]
          omega

theorem specShort_no {n : Nat} {P : Nat → Pu} (hn : n ≤ 1048576) (hs : seqB n P = false) : Gives 17 n P 0 (fun _ => noPu) 1 := by
  intro w b off cap h
  have HI := Lib.hid (l05Is_ok h hn)
  rw [hs] at HI
  clear h
  go_enter Tryz.func17, Tryz.ntmps17
  go_wp2_with fail
  refine HI.out.mono ?_
  rintro e w' ⟨rfl, rfl⟩
  go_wp2_with fail
  go_ret2
  exact ⟨_, rfl, Below.refl _ _, ⟨none, 0, rfl, Nat.le_refl _, fun h0 => absurd h0 (Nat.lt_irrefl _)⟩⟩

/-- The shortened sequence: how many, which, and the code. -/
theorem specShort {n : Nat} {P : Nat → Pu} (hn : n ≤ 1048576) : Gives 17 n P (if seqB n P then (short ((List.range n).map P)).length else 0) (if seqB n P then fun i => (short ((List.range n).map P)).getD i noPu else fun _ => noPu) (if seqB n P then 0 else 1) := by
  cases hs : seqB n P
  · exact specShort_no hn hs
  · exact specShort_yes (by unfold seqB at hs; simp only [Bool.and_eq_true, decide_eq_true_eq] at hs; exact hs.2) hs
end Go.Proofs.YtojcdhnpdinbpaaGreatDoor
