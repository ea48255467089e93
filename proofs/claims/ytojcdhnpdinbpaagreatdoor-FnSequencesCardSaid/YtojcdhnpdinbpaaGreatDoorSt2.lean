/- What functions from lists of pulses hand back, of a list that has room for itself. Walks: ShortenSequence of the program. -/
import Derived.Test.YtojcdhnpdinbpaaGreatDoorGv
import Derived.Test.YtojcdhnpdinbpaaGreatDoorSr
namespace Go.Proofs.YtojcdhnpdinbpaaGreatDoor
open Go.RowKit

/-- As Gives, of a list that has room for itself. -/
def GivesC (f : FuncId) (n : Nat) (P : Nat → Pu) (m : Nat) (Q : Nat → Pu) (code : Int) : Prop :=
  ∀ (w : World) (b off cap : Nat), n ≤ cap → Rd w (.slice (some ⟨b, off, none⟩) n cap) n P → Calls Tryz.prog f #[.slice (some ⟨b, off, none⟩) n cap] w fun e w' => ∃ u, e = .returned (.tuple #[u, .int .i64 code]) ∧ Below w.heap.size w w' ∧ Own w' u m Q w.heap.size w'.heap.size
end Go.Proofs.YtojcdhnpdinbpaaGreatDoor

namespace Go.Proofs.YtojcdhnpdinbpaaGreatDoor
open Go.RowKit

theorem implShort_full {n : Nat} {P : Nat → Pu} (hn : n ≤ 60) (hs : seqB n P = true) : GivesF 14 n P (short ((List.range n).map P)).length (fun i => (short ((List.range n).map P)).getD i noPu) 0 := by
  intro w b off cap hcap h
  have HI := Lib.hid (implIs_ok h (by omega))
  rw [hs] at HI
  have H := Lib.hid h
  clear h
  go_enter Tryz.func14, Tryz.ntmps14
  go_wp2_with fail
  refine HI.out.mono ?_
  rintro e w1 ⟨rfl, hb⟩
  have HB := Lib.hid hb
  have HS := Lib.hid (shorten_ok (rd_below H.out hb) hn hcap (seqB_ok hs))
  clear hb
  go_wp2_with fail
  refine HS.out.mono ?_
  rintro e w2 ⟨u, rfl, hb2, ho2, hf⟩
  have HF := Lib.hid hf
  have HB2 := Lib.hid (HB.out.trans (hb2.mono HB.out.size))
  have HO2 := Lib.hid (own_wide ho2 HB.out.size)
  clear hb2 ho2 hf
  go_wp2_with fail
  go_ret2
  exact ⟨_, rfl, HB2.out, HO2.out, HF.out⟩

theorem implShort_yes {n : Nat} {P : Nat → Pu} (hn : n ≤ 60) (hs : seqB n P = true) : GivesC 14 n P (short ((List.range n).map P)).length (fun i => (short ((List.range n).map P)).getD i noPu) 0 :=
  fun w b off cap hc h => (implShort_full hn hs w b off cap hc h).mono fun _ _ ⟨u, h1, h2, h3, _⟩ => ⟨u, h1, h2, h3⟩

theorem implShort_no {n : Nat} {P : Nat → Pu} (hn : n ≤ 1048576) (hs : seqB n P = false) : GivesC 14 n P 0 (fun _ => noPu) 1 := by
  intro w b off cap _ h
  have HI := Lib.hid (implIs_ok h hn)
  rw [hs] at HI
  clear h
  go_enter Tryz.func14, Tryz.ntmps14
  go_wp2_with fail
  refine HI.out.mono ?_
  rintro e w' ⟨rfl, hb⟩
  have HB := Lib.hid hb
  clear hb
  go_wp2_with fail
  go_ret2
  exact ⟨_, rfl, HB.out, ⟨none, 0, rfl, Nat.le_refl _, fun h0 => absurd h0 (Nat.lt_irrefl _)⟩⟩

/-- The shortened sequence: how many, which, and the code. -/
theorem implShort {n : Nat} {P : Nat → Pu} (hn : n ≤ 1048576) : GivesC 14 n P (if seqB n P then (short ((List.range n).map P)).length else 0) (if seqB n P then fun i => (short ((List.range n).map P)).getD i noPu else fun _ => noPu) (if seqB n P then 0 else 1) := by
  cases hs : seqB n P
  · exact implShort_no hn hs
  · exact implShort_yes (by unfold seqB at hs; simp only [Bool.and_eq_true, decide_eq_true_eq] at hs; exact hs.2) hs
end Go.Proofs.YtojcdhnpdinbpaaGreatDoor
