/- Walks: ShortenSequence of the program. -/
import Derived.Test.YtmaohbddmafifaaSr
import Derived.Test.YtmaohbddmafifaaGc
namespace Go.Proofs.Ytmaohbddmafifaa
open Go.RowKit

theorem implShort_yes {n : Nat} {P : Nat → Pu} (hn : n ≤ 60) (hs : seqB n P = true) : GivesC 21 n P (short ((List.range n).map P)).length (fun i => (short ((List.range n).map P)).getD i noPu) 0 := by
  intro w b off cap hcap h
  have HI := Lib.hid (implIs_ok h (by omega))
  rw [hs] at HI
  have H := Lib.hid h
  clear h
  go_enter Try.func21, Try.ntmps21
  go_wp2_with fail
  refine HI.out.mono ?_
  rintro e w1 ⟨rfl, hb⟩
  have HB := Lib.hid hb
  have HS := Lib.hid (shorten_ok (rd_below H.out hb) hn hcap (seqB_ok hs))
  clear hb
  go_wp2_with fail
  refine HS.out.mono ?_
  rintro e w2 ⟨u, rfl, hb2, ho2⟩
  have HB2 := Lib.hid (HB.out.trans (hb2.mono HB.out.size))
  have HO2 := Lib.hid (own_wide ho2 HB.out.size)
  clear hb2 ho2
  go_wp2_with fail
  go_ret2
  exact ⟨_, rfl, HB2.out, HO2.out⟩

theorem implShort_no {n : Nat} {P : Nat → Pu} (hn : n ≤ 1048576) (hs : seqB n P = false) : GivesC 21 n P 0 (fun _ => noPu) 1 := by
  intro w b off cap _ h
  have HI := Lib.hid (implIs_ok h hn)
  rw [hs] at HI
  clear h
  go_enter Try.func21, Try.ntmps21
  go_wp2_with fail
  refine HI.out.mono ?_
  rintro e w' ⟨rfl, hb⟩
  have HB := Lib.hid hb
  clear hb
  go_wp2_with fail
  go_ret2
  exact ⟨_, rfl, HB.out, ⟨none, 0, rfl, Nat.le_refl _, fun h0 => absurd h0 (Nat.lt_irrefl _)⟩⟩

/-- The shortened sequence: how many, which, and the code. -/
theorem implShort {n : Nat} {P : Nat → Pu} (hn : n ≤ 1048576) : GivesC 21 n P (if seqB n P then (short ((List.range n).map P)).length else 0) (if seqB n P then fun i => (short ((List.range n).map P)).getD i noPu else fun _ => noPu) (if seqB n P then 0 else 1) := by
  cases hs : seqB n P
  · exact implShort_no hn hs
  · exact implShort_yes (by unfold seqB at hs; simp only [Bool.and_eq_true, decide_eq_true_eq] at hs; exact hs.2) hs
end Go.Proofs.Ytmaohbddmafifaa
