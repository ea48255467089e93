/- Walks: inverses, as the specification has them. Tables held against each other. -/
import Derived.Test.YtlglbinalocilaaKbc
import Derived.Test.YtlglbinalocilaaKbb
import Derived.Deep.AppendLies
import Derived.Deep.RegionHeld3
namespace Go.Proofs.Ytlglbinalocilaa
open Go.RowKit

/-- The cells of a list of pulses. -/
def cellsL (L : List Pu) : List Value := L.flatMap fun p => [.int .i64 p.ax, .int .i64 p.ha, .bool p.bk]

theorem cellsL_length (L : List Pu) : (cellsL L).length = L.length * 3 := by
  unfold cellsL
  induction L with
  | nil => rfl
  | cons p L ih => simp only [List.flatMap_cons, List.length_append, ih, List.length_cons, List.length_nil]; omega

theorem cellsL_get (L : List Pu) : ∀ j, j < L.length * 3 → (cellsL L)[j]? = some (pc (fun i => L.getD i noPu) j) := by
  induction L with
  | nil => intro j hj; simp at hj
  | cons p L ih =>
    intro j hj
    have e : cellsL (p :: L) = .int .i64 p.ax :: .int .i64 p.ha :: .bool p.bk :: cellsL L := rfl
    rw [e]
    match j, hj with
    | 0, _ => rfl
    | 1, _ => rfl
    | 2, _ => rfl
    | j + 3, hj =>
      have hj' : j < L.length * 3 := by simp only [List.length_cons] at hj; omega
      simp only [List.getElem?_cons_succ]
      rw [ih j hj']
      unfold pc
      have e1 : (j + 3) % 3 = j % 3 := by omega
      have e2 : (j + 3) / 3 = j / 3 + 1 := by omega
      rw [e1, e2]
      simp only [List.getD_cons_succ]

theorem owns_own {w : World} {base n : Nat} {v : Value} {L : List Pu} (h : w.ownsRow base 64 3 v n (cellsL L)) (hL : L.length = n) : Own w v n (fun i => L.getD i noPu) base w.heap.size := by
  obtain ⟨h1, ⟨rfl, rfl⟩ | ⟨g, cap, cur, rfl, hg, hb, hn, hm, hs, ht⟩⟩ := h
  · exact ⟨none, 0, rfl, Nat.le_refl _, fun h0 => absurd h0 (Nat.lt_irrefl _)⟩
  · refine ⟨_, cap, rfl, Nat.le_refl _, fun h0 => ⟨g, n, _, rfl, hg, ?_, Nat.le_refl _, ⟨cap * 3, fun j => (cur[j]?).getD undef, Nat.mul_le_mul_right _ hn, ⟨cur, hb, hs, fun i hi => ?_⟩, fun j hj => ?_⟩, fun _ _ => rfl⟩⟩
    · obtain ⟨hlt, _⟩ := Array.getElem?_eq_some_iff.1 hb
      exact hlt
    · simp only [Array.getElem?_eq_getElem (show i < cur.size by omega), Option.getD_some]
    · have := cellsL_get L j (by omega)
      rw [← ht, List.getElem?_take_of_lt hj, Array.getElem?_toList] at this
      simp only [this, Option.getD_some]

theorem news_three {W : World} {H : Nat} {v0 v1 v2 : Value} (h0 : W.cell? ⟨H, 0, none⟩ = some v0) (h1 : W.cell? ⟨H, 1, none⟩ = some v1) (h2 : W.cell? ⟨H, 2, none⟩ = some v2) :
    ∀ j u, ([v0, v1, v2] : List Value)[j]? = some u → W.cell? ((⟨H, 0, none⟩ : Addr).add j) = some u := by
  intro j u hj
  match j, hj with
  | 0, hj => simp at hj; subst hj; simpa [Addr.add] using h0
  | 1, hj => simp at hj; subst hj; simpa [Addr.add] using h1
  | 2, hj => simp at hj; subst hj; simpa [Addr.add] using h2
  | j + 3, hj => simp at hj

theorem one_three {p : Pu} : ∀ u ∈ ([.int .i64 p.ax, .int .i64 p.ha, .bool p.bk] : List Value), u.oneCell' = true := by
  intro u hu
  simp at hu
  rcases hu with rfl | rfl | rfl <;> rfl

theorem own_congr {w : World} {v : Value} {m lo hi : Nat} {P Q : Nat → Pu} (h : Own w v m P lo hi) (e : ∀ i, i < m → P i = Q i) : Own w v m Q lo hi := by
  obtain ⟨a, cap, rfl, hh, h⟩ := h
  refine ⟨a, cap, rfl, hh, fun h0 => ?_⟩
  obtain ⟨B, N, R, rfl, h1, h2, h3, h4, h5⟩ := h h0
  exact ⟨B, N, R, rfl, h1, h2, h3, h4, fun i hi => (h5 i hi).trans (e i hi)⟩

def inv (p : Pu) : Pu := ⟨p.ax, p.ha, !p.bk⟩

end Go.Proofs.Ytlglbinalocilaa

namespace Go.Proofs.Ytlglbinalocilaa
open Go.RowKit

theorem ord_same (x : Nat) (hx : x < 4294967296) (h : fin x = true) : FloatKind.f32.format.order x x = some .eq := by
  obtain ⟨s, m, e, _, hf, rfl⟩ := fin_fit x hx h
  have := Flt.order_fit Ieee.single (by decide) s s m m e e e hf hf (Int.le_refl _) (Int.le_refl _)
  rw [cmp_eq rfl] at this
  exact this

/-- The same number is equal, whatever the sign of a zero. -/
theorem ord_eqv {x y : Nat} (h : Eqv x y) (hf : fin x = true) : FloatKind.f32.format.order x y = some .eq := by
  obtain ⟨hx, hy, rfl | ⟨h1, h2⟩⟩ := h
  · exact ord_same x hx hf
  · unfold mag at h1 h2
    have e1 : x = 0 ∨ x = 2147483648 := by omega
    have e2 : y = 0 ∨ y = 2147483648 := by omega
    rcases e1 with rfl | rfl <;> rcases e2 with rfl | rfl <;> decide +kernel

theorem eq_row {z w z' w' : Cx} (h : EqC z z') (g : EqC w w') (hz : CF z) (hw : CF w) (W : World) :
    (Op.equalIn 9999 27 (.agg #[.complex .f32 z.re z.im, .complex .f32 w.re w.im]) (.agg #[.complex .f32 z'.re z'.im, .complex .f32 w'.re w'.im])).run Try.prog W = .ok true W := by
  rw [run_equalIn_array W 9998 2 1 27 26 _ _ Try.underlying27 (by kernel_rfl)]
  have h0 : ∀ (x y z u : Nat) (w : World), (part 26 #[.complex .f32 x y, .complex .f32 z u] (0 * 1)).run Try.prog w = .ok (.complex .f32 x y) w := fun _ _ _ _ _ => by kernel_rfl
  have h1 : ∀ (x y z u : Nat) (w : World), (part 26 #[.complex .f32 x y, .complex .f32 z u] (1 * 1)).run Try.prog w = .ok (.complex .f32 z u) w := fun _ _ _ _ _ => by kernel_rfl
  have he : ∀ {z z' : Cx} (_ : EqC z z') (_ : CF z) (w : World), (Op.equalIn 9998 26 (.complex .f32 z.re z.im) (.complex .f32 z'.re z'.im)).run Try.prog w = .ok true w := fun {z z'} h hz w => by
    rw [run_equalIn_complex w 9997 26 .f32 .f32 _ _ _ _ Try.underlying26, ord_eqv h.1 hz.1.2, ord_eqv h.2 hz.2.2]; rfl
  show (eqElems 9998 26 1 _ _ [0, 1]).run Try.prog W = _
  simp only [eqElems, Sem.run_bind, h0, h1, Result.andThen_ok, he h hz, he g hw, Sem.run_ite, Sem.run_pure]
  rfl

theorem neq_tab {s t : Tb} (h : EqT s t) (hs : TF s) (W : World) :
    (binOp .neq 29 (.agg #[.complex .f32 s.a.re s.a.im, .complex .f32 s.b.re s.b.im, .complex .f32 s.c.re s.c.im, .complex .f32 s.d.re s.d.im]) (.agg #[.complex .f32 t.a.re t.a.im, .complex .f32 t.b.re t.b.im, .complex .f32 t.c.re t.c.im, .complex .f32 t.d.re t.d.im])).run Try.prog W = .ok (.bool false) W := by
  rw [run_neq_struct]
  rw [run_equalIn_array W 9999 2 2 29 27 _ _ Try.underlying29 (by kernel_rfl)]
  have h0 : ∀ (x y z u : Value) (w : World), (part 27 #[x, y, z, u] (0 * 2)).run Try.prog w = .ok (.agg #[x, y]) w := fun _ _ _ _ _ => by kernel_rfl
  have h1 : ∀ (x y z u : Value) (w : World), (part 27 #[x, y, z, u] (1 * 2)).run Try.prog w = .ok (.agg #[z, u]) w := fun _ _ _ _ _ => by kernel_rfl
  show ((eqElems 9999 27 2 _ _ [0, 1]).run Try.prog W).andThen _ = _
  simp only [eqElems, Sem.run_bind, h0, h1, Result.andThen_ok, eq_row h.1 h.2.1 hs.1 hs.2.1, eq_row h.2.2.1 h.2.2.2 hs.2.2.1 hs.2.2.2, Sem.run_ite, Sem.run_pure]
  rfl


end Go.Proofs.Ytlglbinalocilaa
