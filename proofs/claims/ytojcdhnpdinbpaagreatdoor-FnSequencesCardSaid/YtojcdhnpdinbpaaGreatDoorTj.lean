/- Walks: SequenceText of the program. -/
import Derived.Test.YtojcdhnpdinbpaaGreatDoorTi
import Derived.Test.YtojcdhnpdinbpaaGreatDoorGt
namespace Go.Proofs.YtojcdhnpdinbpaaGreatDoor
open Go.RowKit

theorem text_len : ∀ p ∈ cands, (ptext p).length ≤ 4 := by decide +kernel
theorem tx_len {P : Nat → Pu} (n : Nat) (h : ∀ i, i < n → okP (P i) = true) : (tx P n).length ≤ 5 * n := by
  induction n with
  | zero => exact Nat.le_refl _
  | succ n ih =>
    have h0 := text_len _ (cands_mem (h n (by omega)))
    have h1 := ih (fun i hi => h i (by omega))
    rw [show tx P (n + 1) = tx P n ++ ((if n = 0 then [] else [32]) ++ ptext (P n)) from rfl, List.length_append, List.length_append]
    split
    · simp only [List.length_nil]; omega
    · simp only [List.length_cons, List.length_nil]; omega
theorem seqB_all {n : Nat} {P : Nat → Pu} (h : seqB n P = true) : (∀ i, i < n → okP (P i) = true) ∧ n ≤ 60 := by
  unfold seqB at h
  simp only [Bool.and_eq_true, decide_eq_true_eq, List.all_eq_true, List.mem_range] at h
  exact h

def strOf (p : List UInt8) : Value := .string ⟨p.toArray⟩
theorem strOf_eq (t : ByteArray) (p : List UInt8) (h : t.data.toList = p) : Value.string t = strOf p := by
  subst h; rfl

theorem infoString : (Tryz.prog.info? 9).map (fun i => (i.zero, i.size, i.bytes)) = some (some (.string ⟨#[]⟩), 1, 16) := by kernel_rfl
theorem make_texts (n : Nat) (hn : n ≤ 1048576) (w : World) :
    (Instr.makeSlice 41 (.int .i64 0) (.int .i64 (n : Int))).run Tryz.prog w = .ok (.slice (some ⟨w.heap.size, 0, none⟩) 0 n) (w.alloc (.cells (madeCells #[.string ⟨#[]⟩] n) 9)) := by
  obtain ⟨i, hi1, z1, z2, z3⟩ := info_parts infoString
  have := run_make (P := Tryz.prog) w 41 9 i _ Tryz.underlying41 hi1 z1 .i64 .i64 0 n (Int.le_refl _) (by omega) (by rw [z3]; omega) (by omega)
  rw [z2] at this
  have hc : (Value.string ⟨#[]⟩).cells = #[.string ⟨#[]⟩] := by kernel_rfl
  rw [hc] at this
  simpa using this

theorem news_one {W : World} {H : Nat} {v0 : Value} (h0 : W.cell? ⟨H, 0, none⟩ = some v0) : ∀ j u, ([v0] : List Value)[j]? = some u → W.cell? ((⟨H, 0, none⟩ : Addr).add j) = some u := by
  intro j u hj
  match j, hj with
  | 0, hj => simp at hj; subst hj; simpa [Addr.add] using h0
  | j + 1, hj => simp at hj

/-- strings.Join of a list of the call's own. -/
theorem join_own {w : World} {base n : Nat} {v : Value} {P : Nat → Pu} (h : w.ownsRow base 9 1 v n ((List.range n).map fun j => strOf (ptext (P j)))) (hok : ∀ i, i < n → okP (P i) = true) (hn : n ≤ 60) :
    Calls Tryz.prog 30 #[v, .string ⟨#[32]⟩] w fun e w' => e = .returned (.string ⟨(tx P n).toArray⟩) ∧ Below w.heap.size w w' := by
  have hc := fun g hg => World.ownsRow.cells h (g := g) hg
  have hb := fun g hg => (World.ownsRow.lt h g hg)
  have hj : Lib.join (((List.range n).map fun j => (⟨(ptext (P j)).toArray⟩ : ByteArray)).map (·.data.toList)) [32] = tx P n := by
    rw [List.map_map]
    exact tx_join P n
  by_cases h0 : n = 0
  · subst h0
    obtain ⟨_, ⟨rfl, _⟩ | ⟨g, cap, cur, rfl, _⟩⟩ := h
    · exact (Tryz.strings_Join_none none 0 ⟨#[32]⟩ w).mono fun e w' ⟨he, hw⟩ => ⟨he, hw ▸ Below.refl _ _⟩
    · exact (Tryz.strings_Join_none _ cap ⟨#[32]⟩ w).mono fun e w' ⟨he, hw⟩ => ⟨he, hw ▸ Below.refl _ _⟩
  · obtain ⟨_, ⟨_, h1⟩ | ⟨g, cap, cur, rfl, hg, hbk, hn1, hm, hs, ht⟩⟩ := h
    · exact absurd h1 h0
    · have hlen := tx_len n hok
      have := Tryz.strings_Join g 0 cap ((List.range n).map fun j => (⟨(ptext (P j)).toArray⟩ : ByteArray)) ⟨#[32]⟩ w ?_ (hb g rfl).2 (by simp; omega) (by simpa using hn1) ?_
      · rw [show (⟨#[32]⟩ : ByteArray).data.toList = [32] from rfl, hj, List.length_map, List.length_range] at this
        exact this
      · intro j x hx
        have hjl : j < n := by
          have := (List.getElem?_eq_some_iff.1 hx).1
          simpa using this
        have h2 := hc g rfl j (strOf (ptext (P j))) (by simp [hjl])
        rw [List.getElem?_map, List.getElem?_range hjl] at hx
        injection hx with hx
        subst hx
        rw [show (⟨g, 0, none⟩ : Addr).add j = ⟨g, 0 + j, none⟩ from by unfold Addr.add; split <;> simp_all] at h2
        exact h2
      · rw [show (⟨#[32]⟩ : ByteArray).data.toList = [32] from rfl, hj]; omega

set_option maxRecDepth 100000 in
set_option maxHeartbeats 2000000 in
theorem implText_yes {n : Nat} {P : Nat → Pu} (hn : n ≤ 1048576) (hs : seqB n P = true) : GivesT 6 n P ⟨(tx P n).toArray⟩ 0 := by
  intro w b off cap hcap h
  obtain ⟨hok, hn60⟩ := seqB_all hs
  have HI := Lib.hid (implIs_ok h hn)
  rw [hs] at HI
  have hmk := make_texts n hn
  obtain ⟨ti, ti1, z1, z2, z3⟩ := info_parts infoString
  obtain ⟨a, cap', hv, h⟩ := h
  injection hv with q1 _ q3
  subst q1 q3
  have HOK := Lib.hid hok
  clear hok
  go_enter Tryz.func6, Tryz.ntmps6
  go_wp2_with fail
  refine HI.out.mono ?_
  rintro e w0 ⟨rfl, hb0⟩
  have HB0 := Lib.hid hb0
  have hsz0 := hb0.size
  clear hb0
  go_wp2_with fail
  have hown0 : (w0.alloc (.cells (madeCells #[.string ⟨#[]⟩] n) 9)).ownsRow w.heap.size 9 1 (.slice (some ⟨w0.heap.size, 0, none⟩) 0 n) 0 [] :=
    World.ownsRow_made w0 _ n hsz0 (by unfold maxLen; omega) (by rw [size_madeCells]; omega)
  generalize madeCells #[Value.string ⟨#[]⟩] n = cs at *
  go_loopw [4, 15] (fun v' i wr => ∃ k : Nat, k ≤ n ∧ i = .int .i64 k ∧ wr.ownsRow w.heap.size 9 1 v' k ((List.range k).map fun j => strOf (ptext (P j))) ∧ Below w.heap.size w wr) (fun _ i _ => n - (intOf i).toNat)
  case atStart => exact ⟨0, Nat.zero_le _, rfl, hown0, HB0.out.alloc hsz0 _⟩
  case round =>
    obtain ⟨k, hk, rfl, hown, hb⟩ := hrel
    by_cases hlt : k < n
    · obtain ⟨b', off', q5, hl, hc⟩ := h (by omega)
      injection q5 with q5
      injection q5 with q6 q7
      subst q6 q7
      obtain ⟨c0, c1, c2⟩ := hc k hlt
      rw [← hb.cell (p := ⟨b, _, none⟩) hl] at c0 c1 c2
      have hsz := hb.size
      have hl2 : b < wr.heap.size := Nat.lt_of_lt_of_le hl hsz
      have hlt' : (k : Int) < (n : Int) := by omega
      have HB := Lib.hid hb
      have HO := Lib.hid hown
      have T := fun w => text_any (P k) (HOK.out k hlt) w
      unfold Pu.v at T
      have HTk := Lib.hid T
      clear hb hown hc h hmk hown0 T
      go_wp2_with fail
      refine (HTk.out _).mono ?_
      rintro e w2 ⟨t, rfl, htd, hb2⟩
      rw [strOf_eq t _ htd]
      have hsz2 := hb2.size
      simp only [World.size_setCell, World.size_alloc] at hsz2
      have hb3 : Below wr.heap.size wr w2 := ((Below.refl wr.heap.size wr).alloc (Nat.le_refl _) _).trans (hb2.mono (by simp))
      have HB2 := Lib.hid (HB.out.trans (Below.mono hb3 hsz))
      have HO2 := Lib.hid (owns_below HO.out hb3)
      have hsz3 := hb3.size
      clear hb2 hb3 htd
      unfold strOf
      go_wp2_with (at_builtin; refine stop_list ?_)
      unfold Hid
      refine wpList_append_own_at _ rfl _ _ 41 rfl w.heap.size 9 ti _ 1 16 Tryz.underlying41 ti1 z1 z2 z3 rfl (by decide) _ k _ rfl (by exact HO2.out.alloc _) ⟨w2.heap.size, 0, none⟩ 1 _ [strOf (ptext (P k))] rfl rfl (news_one (by simp [go_sem, strOf])) (by intro u hu; simp at hu; subst hu; rfl) (by unfold maxLen; omega) (by omega) (by simp; omega) ?_
      intro v3 w3 hown hgrow hnil hblk
      have HO3 := Lib.hid hown
      have HB3 := Lib.hid (Below.grown (a := w) (by exact Below.alloc_own HB2.out _) hgrow (by simp; omega) (by intro g hg; exact (World.ownsRow.lt HO2.out g hg).1))
      clear hown hgrow hnil hblk
      go_wp2_with fail
      go_roundw
      case rel =>
        refine ⟨k + 1, by omega, by go_num, ?_, HB3.out⟩
        rw [List.range_succ, List.map_append]
        exact HO3.out
      case measure => simp [intOf]; omega
    · have he : k = n := by omega
      subst he
      have hlt' : ¬ ((k : Int) < (k : Int)) := by omega
      have HB := Lib.hid hb
      have HJ := Lib.hid (join_own hown HOK.out hn60)
      clear hb hown h
      go_wp2_with fail
      refine HJ.out.mono ?_
      rintro e w2 ⟨rfl, hb2⟩
      have HB2 := Lib.hid (HB.out.trans (hb2.mono HB.out.size))
      clear hb2
      go_wp2_with fail
      go_ret2
      exact ⟨rfl, HB2.out⟩

theorem implText_no {n : Nat} {P : Nat → Pu} (hn : n ≤ 1048576) (hs : seqB n P = false) : GivesT 6 n P ⟨#[]⟩ 1 := by
  intro w b off cap hcap h
  have HI := Lib.hid (implIs_ok h hn)
  rw [hs] at HI
  clear h
  go_enter Tryz.func6, Tryz.ntmps6
  go_wp2_with fail
  refine HI.out.mono ?_
  rintro e w' ⟨rfl, hb⟩
  have HB := Lib.hid hb
  clear hb
  go_wp2_with fail
  go_ret2
  exact ⟨rfl, HB.out⟩

theorem implText {n : Nat} {P : Nat → Pu} (hn : n ≤ 1048576) : GivesT 6 n P (if seqB n P then ⟨(tx P n).toArray⟩ else ⟨#[]⟩) (if seqB n P then 0 else 1) := by
  cases hs : seqB n P
  · simpa using implText_no hn hs
  · simpa using implText_yes hn hs
end Go.Proofs.YtojcdhnpdinbpaaGreatDoor
