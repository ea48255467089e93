/- Walks: IsSequence of the program. Walks: the table of a pulse, of both; the unit of both; the tables of the beginnings of a list. -/
import Derived.Test.YtaghfffbhgpalaaKbh
import Derived.Test.YtaghfffbhgpalaaEqm
namespace Go.Proofs.Ytaghfffbhgpalaa
open Go.RowKit

theorem seqB_long {n : Nat} {P : Nat → Pu} (h : ¬ n ≤ 60) : seqB n P = false := by
  unfold seqB
  rw [decide_eq_false h, Bool.and_false]

end Go.Proofs.Ytaghfffbhgpalaa

namespace Go.Proofs.Ytaghfffbhgpalaa
open Go.RowKit

/-- The table of a pulse. -/
def pulseTb (p : Pu) : Tb := if p.bk then (aboutTb p.ax (halved p.ha.toNat).1 (halved p.ha.toNat).2).adj else aboutTb p.ax (halved p.ha.toNat).1 (halved p.ha.toNat).2

def unitS : Tb := partsTb one32 0 0 0
def unitI : Tb := ⟨⟨one32, 0⟩, ⟨0, 0⟩, ⟨0, 0⟩, ⟨one32, 0⟩⟩

def tabS (P : Nat → Pu) : Nat → Tb
  | 0 => unitS
  | n + 1 => (pulseTb (P n)).mul (tabS P n)
def tabI (P : Nat → Pu) : Nat → Tb
  | 0 => unitI
  | n + 1 => (pulseTb (P n)).mul (tabI P n)

theorem ok_parts {p : Pu} (h : okP p = true) : (p.ax = 0 ∨ p.ax = 1 ∨ p.ax = 2) ∧ ∃ k : Nat, p.ha = k ∧ k ≤ 24 := by
  unfold okP at h
  simp only [Bool.and_eq_true, decide_eq_true_eq] at h
  exact ⟨by omega, p.ha.toNat, by omega, by omega⟩

theorem pulse_pls {p : Pu} (h : okP p = true) : Pls (pulseTb p) := by
  obtain ⟨_, k, hk, h24⟩ := ok_parts h
  have hb := halved_of p.ha.toNat (by omega)
  unfold pulseTb
  split
  · exact (about_pls p.ax hb.1 hb.2).2
  · exact (about_pls p.ax hb.1 hb.2).1

theorem unitS_tb : TB 0 unitS := by
  have z := bd_null
  have n := bd_nneg
  have o := one_vl.2
  exact ⟨⟨o, n.1⟩, ⟨n.1, n.1⟩, ⟨z.1, n.1⟩, ⟨o, z.1⟩⟩

theorem unit_eqt : EqT unitS unitI := by
  have z := bd_null
  have n := bd_nneg
  have o := one_vl.2
  have e : Eqv (Op.negFloat .f32 0) 0 := ⟨n.1.1, z.1.1, .inr ⟨n.2, z.2⟩⟩
  exact ⟨⟨eqv_refl o.1, e⟩, ⟨e, e⟩, ⟨eqv_refl z.1.1, e⟩, ⟨eqv_refl o.1, eqv_refl z.1.1⟩⟩

theorem tabs_ok {n : Nat} {P : Nat → Pu} (hok : ∀ i, i < n → okP (P i) = true) : ∀ k : Nat, k ≤ n → k ≤ 60 → TB k (tabS P k) ∧ EqT (tabS P k) (tabI P k) ∧ TB k (tabI P k)
  | 0, _, _ => ⟨unitS_tb, unit_eqt, tb_eqv unit_eqt unitS_tb⟩
  | k + 1, hk, h60 => by
    obtain ⟨h1, h2, h3⟩ := tabs_ok hok k (by omega) (by omega)
    have hp := pulse_pls (hok k (by omega))
    have m1 := mul_pls hp h1 (by omega)
    have hpp : EqT (pulseTb (P k)) (pulseTb (P k)) := by
      have hb : TB 0 (pulseTb (P k)) := by
        rcases hp with ⟨a, b, c, d⟩ | ⟨a, b, c, d⟩
        · exact ⟨a.1, b.1, c.1, d.1⟩
        · exact ⟨a, b.1, c.1, d⟩
      exact eqt_refl hb
    have e := mul_eqt m1.1 hpp h2
    exact ⟨m1.2, e, tb_eqv e m1.2⟩

/-- The same drift of both. -/
theorem drift_both {n : Nat} {P : Nat → Pu} (hok : ∀ i, i < n → okP (P i) = true) (k : Nat) (hk : k ≤ n) (h60 : k ≤ 60) : driftS (tabS P k) = driftI (tabI P k) := by
  obtain ⟨h1, h2, _⟩ := tabs_ok hok k hk h60
  rw [drift_same h1 (by omega), drift_eqt h1 (by omega) h2]

end Go.Proofs.Ytaghfffbhgpalaa
