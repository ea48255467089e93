/- Walks: inverses, as the program has them: whole. -/
import Derived.Test.YtikaabpldnhbkaaDoorIv
namespace Go.Proofs.YtikaabpldnhbkaaDoor
open Go.RowKit

theorem make_room (n : Nat) (hn : n ≤ 1048576) (w : World) :
    (Instr.makeSlice 26 (.int .i64 0) (.int .i64 (n : Int))).run Tryd.prog w = .ok (.slice (some ⟨w.heap.size, 0, none⟩) 0 n) (w.alloc (.cells (madeCells #[.int .i64 0, .int .i64 0, .bool false] (n * 3)) 37)) := by
  obtain ⟨i, hi1, z1, z2, z3⟩ := info_parts infoPulse
  have := run_make (P := Tryd.prog) w 26 37 i _ Tryd.underlying26 hi1 z1 .i64 .i64 0 n (Int.le_refl _) (by omega) (by rw [z3]; omega) (by omega)
  rw [z2] at this
  have hc : (Value.agg #[.int .i64 0, .int .i64 0, .bool false]).cells = #[.int .i64 0, .int .i64 0, .bool false] := by kernel_rfl
  rw [hc] at this
  simpa using this

theorem own_form {w : World} {v : Value} {m lo hi : Nat} {P : Nat → Pu} (h : Own w v m P lo hi) (h0 : 0 < m) : ∃ B cap N, v = .slice (some ⟨B, 0, none⟩) m cap ∧ lo ≤ B ∧ B < hi ∧ hi ≤ w.heap.size ∧ m ≤ N ∧ ∃ Q, Row w B N Q ∧ ∀ i, i < m → Q i = P i := by
  obtain ⟨a, cap, rfl, hh, h⟩ := h
  obtain ⟨B, N, Q, rfl, h1, h2, h3, h4, h5⟩ := h h0
  exact ⟨B, cap, N, rfl, h1, h2, hh, h3, Q, h4, h5⟩

theorem owns_below {w w' : World} {base n size : Nat} {e : TypeId} {v : Value} {xs : List Value} (h : w.ownsRow base e size v n xs) (hb : Below w.heap.size w w') : w'.ownsRow base e size v n xs := by
  obtain ⟨h1, ⟨rfl, rfl⟩ | ⟨g, cap, cur, rfl, hg, hk, hn, hm, hs, ht⟩⟩ := h
  · exact ⟨h1, .inl ⟨rfl, rfl⟩⟩
  · have hlt : g < w.heap.size := (Array.getElem?_eq_some_iff.1 hk).1
    exact ⟨h1, .inr ⟨g, cap, cur, rfl, hg, (hb.block g hlt).trans hk, hn, hm, hs, ht⟩⟩

theorem own_high {w : World} {v : Value} {m lo hi hi' : Nat} {P : Nat → Pu} (h : Own w v m P lo hi) (h1 : hi ≤ hi') (h2 : hi' ≤ w.heap.size) : Own w v m P lo hi' := by
  obtain ⟨a, cap, rfl, hh, h⟩ := h
  refine ⟨a, cap, rfl, h2, fun h0 => ?_⟩
  obtain ⟨B, N, Q, rfl, g1, g2, g3, g4, g5⟩ := h h0
  exact ⟨B, N, Q, rfl, g1, by omega, g3, g4, g5⟩

theorem cellsL_next (k : Nat) (F : Nat → Pu) : cellsL ((List.range (k + 1)).map F) = cellsL ((List.range k).map F) ++ [.int .i64 (F k).ax, .int .i64 (F k).ha, .bool (F k).bk] := by
  rw [List.range_succ, List.map_append]
  unfold cellsL
  rw [List.flatMap_append]
  rfl
