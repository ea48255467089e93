/- Walks: echoes, as the specification has them. -/
import Derived.Test.YtojcdhnpdinbpaaGreatDoorSv
import Derived.WalkKit
namespace Go.Proofs.YtojcdhnpdinbpaaGreatDoor
open Go.RowKit

theorem rd_news {w : World} {b off cap n : Nat} {P : Nat → Pu} (h : Rd w (.slice (some ⟨b, off, none⟩) n cap) n P) :
    ∀ j u, (cellsL ((List.range n).map P))[j]? = some u → w.cell? ((⟨b, off, none⟩ : Addr).add j) = some u := by
  intro j u hj
  have hlt : j < n * 3 := by
    obtain ⟨hl, _⟩ := List.getElem?_eq_some_iff.1 hj
    rw [cellsL_length] at hl
    simpa using hl
  have hn : 0 < n := by omega
  rw [cellsL_get _ j (by simpa using hlt)] at hj
  injection hj with hj
  subst hj
  obtain ⟨a, cap', hv, h⟩ := h
  injection hv with q1 _ q3
  subst q1 q3
  obtain ⟨b', off', q5, hl, hc⟩ := h hn
  injection q5 with q5
  injection q5 with q6 q7
  subst q6 q7
  obtain ⟨c0, c1, c2⟩ := hc (j / 3) (by omega)
  have e : ((List.range n).map P).getD (j / 3) noPu = P (j / 3) := by
    simp [List.getD, show j / 3 < n by omega]
  have hadd : (⟨b, off, none⟩ : Addr).add j = ⟨b, off + j, none⟩ := by
    unfold Addr.add
    split
    · simp_all
    · rfl
  rw [hadd]
  unfold pc
  simp only [e]
  have q : j % 3 = 0 ∨ j % 3 = 1 ∨ j % 3 = 2 := by omega
  rcases q with q | q | q
  · rw [q, show off + j = off + j / 3 * 3 by omega]
    simpa using c0
  · rw [q, show off + j = off + j / 3 * 3 + 1 by omega]
    simpa using c1
  · rw [q, show off + j = off + j / 3 * 3 + 2 by omega]
    simpa using c2

theorem one_cells (L : List Pu) : ∀ u ∈ cellsL L, u.oneCell' = true := by
  intro u hu
  unfold cellsL at hu
  obtain ⟨p, _, hu⟩ := List.mem_flatMap.1 hu
  exact one_three u hu

theorem Below.alloc_own {w w' : World} (h : Below w.heap.size w w') (o : Obj) : Below w.heap.size w (w'.alloc o) := h.alloc h.size _

/-- The news of a list of the caller's, in any later world. -/
def News (b off : Nat) (L : List Value) (w : World) : Prop := ∀ j u, L[j]? = some u → w.cell? ((⟨b, off, none⟩ : Addr).add j) = some u

theorem News.kept {w w' : World} {b off : Nat} {L : List Value} (h : News b off L w) (hB : Below w.heap.size w w') : News b off L w' := by
  intro j u hj
  have h1 := h j u hj
  have hlt : ((⟨b, off, none⟩ : Addr).add j).block < w.heap.size := by
    rcases Nat.lt_or_ge ((⟨b, off, none⟩ : Addr).add j).block w.heap.size with hlt | hge
    · exact hlt
    · unfold World.cell? at h1
      rw [Array.getElem?_eq_none hge] at h1
      simp at h1
  rw [hB.cell hlt]
  exact h1

/-- The echo: which pulses. -/
def echoP (n : Nat) (P : Nat → Pu) (i : Nat) : Pu := if i % (n + 1) = n then noPu else P (i % (n + 1))

theorem echo_get {n : Nat} (P : Nat → Pu) {i : Nat} (hi : i < 2 * n + 2) : ((List.range n).map P ++ [noPu] ++ (List.range n).map P ++ [noPu]).getD i noPu = echoP n P i := by
  unfold echoP
  have q : i < n ∨ i = n ∨ (n < i ∧ i < 2 * n + 1) ∨ i = 2 * n + 1 := by omega
  simp only [List.getD, List.getElem?_append, List.length_append, List.length_map, List.length_range, List.length_singleton]
  rcases q with q | q | q | q
  · rw [Nat.mod_eq_of_lt (show i < n + 1 by omega), if_neg (show ¬ i = n by omega)]
    simp only [show i < n + 1 + n by omega, show i < n + 1 by omega, q, ↓reduceIte]
    simp [q]
  · subst q
    rw [Nat.mod_eq_of_lt (show i < i + 1 by omega)]
    simp [show i < i + 1 + i by omega]
  · have hm : i % (n + 1) = i - (n + 1) := by rw [Nat.mod_eq_sub_mod (by omega), Nat.mod_eq_of_lt (by omega)]
    rw [hm, if_neg (show ¬ i - (n + 1) = n by omega)]
    simp only [show i < n + 1 + n by omega, show ¬ i < n + 1 by omega, ↓reduceIte]
    simp [show i - (n + 1) < n by omega]
  · have hm : i % (n + 1) = n := by rw [Nat.mod_eq_sub_mod (by omega), Nat.mod_eq_of_lt (by omega)]; omega
    rw [hm, if_pos rfl]
    simp only [show ¬ i < n + 1 + n by omega, ↓reduceIte]
    simp [show i - (n + 1 + n) = 0 by omega]

theorem stop_list {P : Program} {ops : Array Oper} {Q : Exit → Act → World → Prop} {l : List Oper} {a : Act} {w : World} (h : Hid (wpList P ops Q l a w)) : wpList P ops Q l a w := h

set_option maxRecDepth 100000 in
set_option maxHeartbeats 2000000 in
theorem specEcho_yes {n : Nat} {P : Nat → Pu} (hn : n ≤ 29) (hs : seqB n P = true) : Gives 20 n P (2 * n + 2) (echoP n P) 0 := by
  intro w b off cap h
  have HI := Lib.hid (l05Is_ok h (by omega))
  rw [hs] at HI
  obtain ⟨ti, ti1, ti2⟩ := Option.map_eq_some_iff.1 infoPulse
  obtain ⟨z1, z2, z3⟩ : ti.zero = _ ∧ ti.size = 3 ∧ ti.bytes = 24 := by simpa only [Prod.mk.injEq] using ti2
  have hN : News b off (cellsL ((List.range n).map P)) w := rd_news h
  have HN := Lib.hid hN
  have hlen : (cellsL ((List.range n).map P)).length = n * 3 := by rw [cellsL_length]; simp
  have HL := Lib.hid hlen
  have HC : ∀ u ∈ cellsL ((List.range n).map P), u.oneCell' = true := one_cells _
  have HC := Lib.hid HC
  generalize hnl : cellsL ((List.range n).map P) = nl at HN HL HC
  have HE := Lib.hid hnl
  clear hN hlen h hnl
  have h29 : ¬ (60 : Int) < 2 * (n : Int) + 2 := by omega
  go_enter Tryz.func20, Tryz.ntmps20
  go_wp2_with fail
  refine HI.out.mono ?_
  rintro e w' ⟨rfl, rfl⟩
  go_wp2_with (at_builtin; refine stop_list ?_)
  unfold Hid
  refine wpList_append_own_at _ rfl _ _ 24 rfl w.heap.size 43 ti _ 3 24 Tryz.underlying24 ti1 z1 z2 z3 rfl (by decide) _ (0) [] rfl (by exact World.ownsRow_made _ #[] 0 (by simp) (Nat.zero_le _) rfl) ⟨b, off, none⟩ n _ nl rfl HL.out (HN.out.kept (by exact Below.alloc_own (Below.refl _ _) _)) HC.out (by unfold maxLen; omega) (by omega) (by simp) ?_
  intro v1 w1 hown hgrow hnil hblk
  have HO1 := Lib.hid hown
  have HB1 := Lib.hid (Below.grown (a := w) (by exact Below.alloc_own (Below.refl _ _) _) hgrow (by simp) (by intro g hg; exact Nat.le_of_eq (Option.some.inj hg)))
  clear hown hgrow hnil hblk
  go_wp2_with (at_builtin; refine stop_list ?_)
  unfold Hid
  refine wpList_append_own_at _ rfl _ _ 24 rfl w.heap.size 43 ti _ 3 24 Tryz.underlying24 ti1 z1 z2 z3 rfl (by decide) _ (0 + n) ([] ++ nl) rfl (by exact HO1.out.alloc _) ⟨w1.heap.size, 0, none⟩ 1 _ [.int .i64 0, .int .i64 0, .bool false] rfl rfl (news_three (by simp [go_sem]) (by simp [go_sem]) (by simp [go_sem])) (one_three (p := noPu)) (by unfold maxLen; omega) (by omega) (by have := HB1.out.size; simp; omega) ?_
  intro v2 w2 hown hgrow hnil hblk
  have HO2 := Lib.hid hown
  have HB2 := Lib.hid (Below.grown (a := w) (by exact Below.alloc_own HB1.out _) hgrow (by have := HB1.out.size; simp; omega) (by intro g hg; exact (World.ownsRow.lt HO1.out g hg).1))
  clear hown hgrow hnil hblk
  go_wp2_with (at_builtin; refine stop_list ?_)
  unfold Hid
  refine wpList_append_own_at _ rfl _ _ 24 rfl w.heap.size 43 ti _ 3 24 Tryz.underlying24 ti1 z1 z2 z3 rfl (by decide) _ (0 + n + 1) ([] ++ nl ++ [.int .i64 0, .int .i64 0, .bool false]) rfl (by exact HO2.out) ⟨b, off, none⟩ n _ nl rfl HL.out (HN.out.kept (by exact HB2.out)) HC.out (by unfold maxLen; omega) (by omega) (by have := HB2.out.size; simp; omega) ?_
  intro v3 w3 hown hgrow hnil hblk
  have HO3 := Lib.hid hown
  have HB3 := Lib.hid (Below.grown (a := w) (by exact HB2.out) hgrow (by have := HB2.out.size; simp; omega) (by intro g hg; exact (World.ownsRow.lt HO2.out g hg).1))
  clear hown hgrow hnil hblk
  go_wp2_with (at_builtin; refine stop_list ?_)
  unfold Hid
  refine wpList_append_own_at _ rfl _ _ 24 rfl w.heap.size 43 ti _ 3 24 Tryz.underlying24 ti1 z1 z2 z3 rfl (by decide) _ (0 + n + 1 + n) ([] ++ nl ++ [.int .i64 0, .int .i64 0, .bool false] ++ nl) rfl (by exact HO3.out.alloc _) ⟨w3.heap.size, 0, none⟩ 1 _ [.int .i64 0, .int .i64 0, .bool false] rfl rfl (news_three (by simp [go_sem]) (by simp [go_sem]) (by simp [go_sem])) (one_three (p := noPu)) (by unfold maxLen; omega) (by omega) (by have := HB3.out.size; simp; omega) ?_
  intro v4 w4 hown hgrow hnil hblk
  have HO4 := Lib.hid hown
  have HB4 := Lib.hid (Below.grown (a := w) (by exact Below.alloc_own HB3.out _) hgrow (by have := HB3.out.size; simp; omega) (by intro g hg; exact (World.ownsRow.lt HO3.out g hg).1))
  clear hown hgrow hnil hblk
  go_wp2_with fail
  go_ret2
  refine ⟨_, rfl, HB4.out, ?_⟩
  have e : [] ++ nl ++ [.int .i64 0, .int .i64 0, .bool false] ++ nl ++ [.int .i64 0, .int .i64 0, .bool false] = cellsL ((List.range n).map P ++ [noPu] ++ (List.range n).map P ++ [noPu]) := by
    rw [← HE.out]
    unfold cellsL
    simp only [List.flatMap_append, List.nil_append]
    rfl
  have HO := HO4.out
  rw [e] at HO
  have hm : 0 + n + 1 + n + 1 = 2 * n + 2 := by omega
  rw [hm] at HO
  exact own_congr (owns_own HO (by simp; omega)) (fun i hi => echo_get P hi)

theorem specEcho_limit {n : Nat} {P : Nat → Pu} (hn : n ≤ 1048576) (h30 : 29 < n) (hs : seqB n P = true) : Gives 20 n P 0 (fun _ => noPu) 3 := by
  intro w b off cap h
  have HI := Lib.hid (l05Is_ok h hn)
  rw [hs] at HI
  clear h
  have h29 : (60 : Int) < 2 * (n : Int) + 2 := by omega
  go_enter Tryz.func20, Tryz.ntmps20
  go_wp2_with fail
  refine HI.out.mono ?_
  rintro e w' ⟨rfl, rfl⟩
  go_wp2_with fail
  go_ret2
  exact ⟨_, rfl, Below.refl _ _, ⟨none, 0, rfl, Nat.le_refl _, fun h0 => absurd h0 (Nat.lt_irrefl _)⟩⟩

theorem specEcho_no {n : Nat} {P : Nat → Pu} (hn : n ≤ 1048576) (hs : seqB n P = false) : Gives 20 n P 0 (fun _ => noPu) 1 := by
  intro w b off cap h
  have HI := Lib.hid (l05Is_ok h hn)
  rw [hs] at HI
  clear h
  go_enter Tryz.func20, Tryz.ntmps20
  go_wp2_with fail
  refine HI.out.mono ?_
  rintro e w' ⟨rfl, rfl⟩
  go_wp2_with fail
  go_ret2
  exact ⟨_, rfl, Below.refl _ _, ⟨none, 0, rfl, Nat.le_refl _, fun h0 => absurd h0 (Nat.lt_irrefl _)⟩⟩

/-- The echo: how many, which, and the code. -/
theorem specEcho {n : Nat} {P : Nat → Pu} (hn : n ≤ 1048576) : Gives 20 n P (if seqB n P ∧ n ≤ 29 then 2 * n + 2 else 0) (if seqB n P ∧ n ≤ 29 then echoP n P else fun _ => noPu) (if seqB n P then (if n ≤ 29 then 0 else 3) else 1) := by
  cases hs : seqB n P
  · simpa using specEcho_no hn hs
  · by_cases h29 : n ≤ 29
    · simpa [h29] using specEcho_yes h29 hs
    · simpa [h29] using specEcho_limit hn (by omega) hs
end Go.Proofs.YtojcdhnpdinbpaaGreatDoor
