/- Walks: echoes, as the specification has them. -/
import Derived.Test.YtlglbinalocilaaKbd
import Derived.WalkKit
namespace Go.Proofs.Ytlglbinalocilaa
open Go.RowKit

theorem rd_news {w : World} {b off cap n : Nat} {P : Nat → Pu} (h : Rd w (.slice (some ⟨b, off, none⟩) n cap) n P) :
    ∀ j u, (cellsL ((List.range n).map P))[j]? = some u → w.cell? ((⟨b, off, none⟩ : Addr).add j) = some u := by
  intro j u hj
  have hlt : j < n * 3 := by
    obtain ⟨hl, _⟩ := List.getElem?_eq_some_iff.1 hj
    rw [cellsL_length] at hl
    simpa using hl
  have hn : 0 < n := by omega
  rw [cellsL_get _ j (by simpa using hlt)] at hj
  injection hj with hj
  subst hj
  obtain ⟨a, cap', hv, h⟩ := h
  injection hv with q1 _ q3
  subst q1 q3
  obtain ⟨b', off', q5, hl, hc⟩ := h hn
  injection q5 with q5
  injection q5 with q6 q7
  subst q6 q7
  obtain ⟨c0, c1, c2⟩ := hc (j / 3) (by omega)
  have e : ((List.range n).map P).getD (j / 3) noPu = P (j / 3) := by
    simp [List.getD, show j / 3 < n by omega]
  have hadd : (⟨b, off, none⟩ : Addr).add j = ⟨b, off + j, none⟩ := by
    unfold Addr.add
    split
    · simp_all
    · rfl
  rw [hadd]
  unfold pc
  simp only [e]
  have q : j % 3 = 0 ∨ j % 3 = 1 ∨ j % 3 = 2 := by omega
  rcases q with q | q | q
  · rw [q, show off + j = off + j / 3 * 3 by omega]
    simpa using c0
  · rw [q, show off + j = off + j / 3 * 3 + 1 by omega]
    simpa using c1
  · rw [q, show off + j = off + j / 3 * 3 + 2 by omega]
    simpa using c2

theorem one_cells (L : List Pu) : ∀ u ∈ cellsL L, u.oneCell' = true := by
  intro u hu
  unfold cellsL at hu
  obtain ⟨p, _, hu⟩ := List.mem_flatMap.1 hu
  exact one_three u hu

theorem Below.alloc_own {w w' : World} (h : Below w.heap.size w w') (o : Obj) : Below w.heap.size w (w'.alloc o) := h.alloc h.size _

/-- The news of a list of the caller's, in any later world. -/
def News (b off : Nat) (L : List Value) (w : World) : Prop := ∀ j u, L[j]? = some u → w.cell? ((⟨b, off, none⟩ : Addr).add j) = some u

theorem News.kept {w w' : World} {b off : Nat} {L : List Value} (h : News b off L w) (hB : Below w.heap.size w w') : News b off L w' := by
  intro j u hj
  have h1 := h j u hj
  have hlt : ((⟨b, off, none⟩ : Addr).add j).block < w.heap.size := by
    rcases Nat.lt_or_ge ((⟨b, off, none⟩ : Addr).add j).block w.heap.size with hlt | hge
    · exact hlt
    · unfold World.cell? at h1
      rw [Array.getElem?_eq_none hge] at h1
      simp at h1
  rw [hB.cell hlt]
  exact h1

/-- The echo: which pulses. -/
def echoP (n : Nat) (P : Nat → Pu) (i : Nat) : Pu := if i % (n + 1) = n then noPu else P (i % (n + 1))

theorem echo_get {n : Nat} (P : Nat → Pu) {i : Nat} (hi : i < 2 * n + 2) : ((List.range n).map P ++ [noPu] ++ (List.range n).map P ++ [noPu]).getD i noPu = echoP n P i := by
  unfold echoP
  have q : i < n ∨ i = n ∨ (n < i ∧ i < 2 * n + 1) ∨ i = 2 * n + 1 := by omega
  simp only [List.getD, List.getElem?_append, List.length_append, List.length_map, List.length_range, List.length_singleton]
  rcases q with q | q | q | q
  · rw [Nat.mod_eq_of_lt (show i < n + 1 by omega), if_neg (show ¬ i = n by omega)]
    simp only [show i < n + 1 + n by omega, show i < n + 1 by omega, q, ↓reduceIte]
    simp [q]
  · subst q
    rw [Nat.mod_eq_of_lt (show i < i + 1 by omega)]
    simp [show i < i + 1 + i by omega]
  · have hm : i % (n + 1) = i - (n + 1) := by rw [Nat.mod_eq_sub_mod (by omega), Nat.mod_eq_of_lt (by omega)]
    rw [hm, if_neg (show ¬ i - (n + 1) = n by omega)]
    simp only [show i < n + 1 + n by omega, show ¬ i < n + 1 by omega, ↓reduceIte]
    simp [show i - (n + 1) < n by omega]
  · have hm : i % (n + 1) = n := by rw [Nat.mod_eq_sub_mod (by omega), Nat.mod_eq_of_lt (by omega)]; omega
    rw [hm, if_pos rfl]
    simp only [show ¬ i < n + 1 + n by omega, ↓reduceIte]
    simp [show i - (n + 1 + n) = 0 by omega]

theorem stop_list {P : Program} {ops : Array Oper} {Q : Exit → Act → World → Prop} {l : List Oper} {a : Act} {w : World} (h : Hid (wpList P ops Q l a w)) : wpList P ops Q l a w := h

end Go.Proofs.Ytlglbinalocilaa
