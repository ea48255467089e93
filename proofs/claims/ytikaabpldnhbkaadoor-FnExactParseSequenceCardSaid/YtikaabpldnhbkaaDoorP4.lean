/- A list of pulses that came in. -/
import Derived.Test.YtikaabpldnhbkaaDoorP3
import Derived.ProofKit
import Derived.OpenShut
import Derived.ChangeOld
import Derived.Deep.Slices
import Derived.Deep.Strs
namespace Go.Proofs.YtikaabpldnhbkaaDoor
open Go.ChangeShapes Go.WideShapes Go.ChangeAt Go.RowKit

theorem cell_size {w : World} {a : Addr} {v : Value} (h : w.cell? a = some v) : a.block < w.heap.size := by
  unfold World.cell? at h
  split at h
  · rename_i hb; exact (Array.getElem?_eq_some_iff.1 hb).1
  · cases h

set_option maxRecDepth 100000 in
/-- What a slice of pulses that came in holds. -/
theorem open_pulses {H : Type} {enc : TypeId × Value → H} {w : World} {held : Bool} {fuel : Nat} {a0 : Option Addr} {len cap : Nat} {x : DataW H × List MemPlace}
    (h : DataW.trod enc Tryd.prog w 0 (fun _ => true) held fuel 22 [.slice a0 len cap] = some x) : (∃ P, Rd w (.slice a0 len cap) len P ∧ ∀ i, i < len → (Lit.int .i64 (P i).ax).wf = true ∧ (Lit.int .i64 (P i).ha).wf = true) ∧ len ≤ maxLen := by
  rcases Go.Deep.open_slice Tryd.underlying22 h with ⟨hcs, _⟩ | ⟨a, l, c, m, n, D, Pl, hcs, _, hl, hm, hmm, _, hx⟩
  · injection hcs with hv _
    injection hv with e1 e2 e3
    subst e1 e2 e3
    exact ⟨⟨fun _ => noPu, ⟨none, 0, rfl, fun h0 => absurd h0 (Nat.lt_irrefl _)⟩, fun i hi => absurd hi (Nat.not_lt_zero _)⟩, Nat.zero_le _⟩
  · injection hcs with hv _
    injection hv with e1 e2 e3
    subst e1 e2 e3
    refine ⟨?_, Nat.le_trans hl hm⟩
    have ce : Tryd.prog.cellsOf 39 = 3 := by kernel_rfl
    simp only [if_true] at hmm
    have each : ∀ i, i < len → ∃ p : Pu, w.cell? (a.add (i * 3)) = some (.int .i64 p.ax) ∧ w.cell? (a.add (i * 3 + 1)) = some (.int .i64 p.ha) ∧ w.cell? (a.add (i * 3 + 2)) = some (.bool p.bk) ∧ (Lit.int .i64 p.ax).wf = true ∧ (Lit.int .i64 p.ha).wf = true := by
      intro i hi
      obtain ⟨cs', h1, h2⟩ := hx i (by omega)
      rw [ce] at h1
      obtain ⟨_, hlen, hcell⟩ := World.cells?_some h1
      obtain ⟨y0, y1, y2, k, _, _, g0, g1, g2⟩ := Go.Deep.trod_struct3 Tryd.underlying39 h2
      match cs', hlen with
      | [v0, v1, v2], _ =>
        have k2 : Tryd.prog.cellsOf 2 = 1 := by kernel_rfl
        have k4 : Tryd.prog.cellsOf 4 = 1 := by kernel_rfl
        simp [k2, k4] at g0 g1 g2
        obtain ⟨x0, q0, _, w0⟩ := DataW.trod_int Tryd.underlying2 g0
        obtain ⟨x1, q1, _, w1⟩ := DataW.trod_int Tryd.underlying2 g1
        obtain ⟨x2, q2, _⟩ := DataW.trod_bool Tryd.underlying4 g2
        injection q0 with q0 _
        injection q1 with q1 _
        injection q2 with q2 _
        subst q0 q1 q2
        have e0 := hcell 0 (by omega)
        have e1 := hcell 1 (by omega)
        have e2 := hcell 2 (by omega)
        rw [Go.Deep.add_add] at e0 e1 e2
        exact ⟨⟨x0, x1, x2⟩, by simpa using e0, by simpa using e1, by simpa using e2, w0, w1⟩
    obtain ⟨P, hP⟩ := Go.Deep.choose_lt (α := Pu) each
    refine ⟨P, ⟨some a, cap, rfl, fun h0 => ?_⟩, fun i hi => (hP i hi).2.2.2⟩
    obtain ⟨b, off, spot⟩ := a
    have c0 := (hP 0 h0).1
    have hspot : spot = none := by simpa [Addr.add] using World.cell?_spot c0
    subst hspot
    refine ⟨b, off, rfl, ?_, fun i hi => ?_⟩
    · have := cell_size c0
      simpa [Addr.add] using this
    · obtain ⟨d0, d1, d2, _⟩ := hP i hi
      rw [add_plain] at d0 d1 d2
      exact ⟨d0, by simpa [Nat.add_assoc] using d1, by simpa [Nat.add_assoc] using d2⟩
end Go.Proofs.YtikaabpldnhbkaaDoor
