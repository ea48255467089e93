/- Walks: inverses, as the specification has them. -/
import Derived.Test.YtikaabpldnhbkaaDoorGv
import Derived.Deep.AppendLies
import Derived.Deep.RegionHeld3
namespace Go.Proofs.YtikaabpldnhbkaaDoor
open Go.RowKit

/-- The cells of a list of pulses. -/
def cellsL (L : List Pu) : List Value := L.flatMap fun p => [.int .i64 p.ax, .int .i64 p.ha, .bool p.bk]

theorem cellsL_length (L : List Pu) : (cellsL L).length = L.length * 3 := by
  unfold cellsL
  induction L with
  | nil => rfl
  | cons p L ih => simp only [List.flatMap_cons, List.length_append, ih, List.length_cons, List.length_nil]; omega

theorem cellsL_get (L : List Pu) : ∀ j, j < L.length * 3 → (cellsL L)[j]? = some (pc (fun i => L.getD i noPu) j) := by
  induction L with
  | nil => intro j hj; simp at hj
  | cons p L ih =>
    intro j hj
    have e : cellsL (p :: L) = .int .i64 p.ax :: .int .i64 p.ha :: .bool p.bk :: cellsL L := rfl
    rw [e]
    match j, hj with
    | 0, _ => rfl
    | 1, _ => rfl
    | 2, _ => rfl
    | j + 3, hj =>
      have hj' : j < L.length * 3 := by simp only [List.length_cons] at hj; omega
      simp only [List.getElem?_cons_succ]
      rw [ih j hj']
      unfold pc
      have e1 : (j + 3) % 3 = j % 3 := by omega
      have e2 : (j + 3) / 3 = j / 3 + 1 := by omega
      rw [e1, e2]
      simp only [List.getD_cons_succ]

theorem owns_own {w : World} {base n : Nat} {v : Value} {L : List Pu} (h : w.ownsRow base 37 3 v n (cellsL L)) (hL : L.length = n) : Own w v n (fun i => L.getD i noPu) base w.heap.size := by
  obtain ⟨h1, ⟨rfl, rfl⟩ | ⟨g, cap, cur, rfl, hg, hb, hn, hm, hs, ht⟩⟩ := h
  · exact ⟨none, 0, rfl, Nat.le_refl _, fun h0 => absurd h0 (Nat.lt_irrefl _)⟩
  · refine ⟨_, cap, rfl, Nat.le_refl _, fun h0 => ⟨g, n, _, rfl, hg, ?_, Nat.le_refl _, ⟨cap * 3, fun j => (cur[j]?).getD undef, Nat.mul_le_mul_right _ hn, ⟨cur, hb, hs, fun i hi => ?_⟩, fun j hj => ?_⟩, fun _ _ => rfl⟩⟩
    · obtain ⟨hlt, _⟩ := Array.getElem?_eq_some_iff.1 hb
      exact hlt
    · simp only [Array.getElem?_eq_getElem (show i < cur.size by omega), Option.getD_some]
    · have := cellsL_get L j (by omega)
      rw [← ht, List.getElem?_take_of_lt hj, Array.getElem?_toList] at this
      simp only [this, Option.getD_some]

theorem news_three {W : World} {H : Nat} {v0 v1 v2 : Value} (h0 : W.cell? ⟨H, 0, none⟩ = some v0) (h1 : W.cell? ⟨H, 1, none⟩ = some v1) (h2 : W.cell? ⟨H, 2, none⟩ = some v2) :
    ∀ j u, ([v0, v1, v2] : List Value)[j]? = some u → W.cell? ((⟨H, 0, none⟩ : Addr).add j) = some u := by
  intro j u hj
  match j, hj with
  | 0, hj => simp at hj; subst hj; simpa [Addr.add] using h0
  | 1, hj => simp at hj; subst hj; simpa [Addr.add] using h1
  | 2, hj => simp at hj; subst hj; simpa [Addr.add] using h2
  | j + 3, hj => simp at hj

theorem one_three {p : Pu} : ∀ u ∈ ([.int .i64 p.ax, .int .i64 p.ha, .bool p.bk] : List Value), u.oneCell' = true := by
  intro u hu
  simp at hu
  rcases hu with rfl | rfl | rfl <;> rfl

theorem own_congr {w : World} {v : Value} {m lo hi : Nat} {P Q : Nat → Pu} (h : Own w v m P lo hi) (e : ∀ i, i < m → P i = Q i) : Own w v m Q lo hi := by
  obtain ⟨a, cap, rfl, hh, h⟩ := h
  refine ⟨a, cap, rfl, hh, fun h0 => ?_⟩
  obtain ⟨B, N, R, rfl, h1, h2, h3, h4, h5⟩ := h h0
  exact ⟨B, N, R, rfl, h1, h2, h3, h4, fun i hi => (h5 i hi).trans (e i hi)⟩

def inv (p : Pu) : Pu := ⟨p.ax, p.ha, !p.bk⟩
