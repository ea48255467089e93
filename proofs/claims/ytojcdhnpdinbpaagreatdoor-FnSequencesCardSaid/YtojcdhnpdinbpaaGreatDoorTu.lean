/- SequenceText of the specification, whole. -/
import Derived.Test.YtojcdhnpdinbpaaGreatDoorTs
namespace Go.Proofs.YtojcdhnpdinbpaaGreatDoor
open Go.RowKit

theorem text_of {t : ByteArray} {l : List UInt8} (h : t.data.toList = l) : t = ⟨l.toArray⟩ := by
  subst h; rfl

set_option maxRecDepth 100000 in
theorem specText_yes {n : Nat} {P : Nat → Pu} (hn : n ≤ 1048576) (hs : seqB n P = true) : GivesT 7 n P ⟨(tx P n).toArray⟩ 0 := by
  intro w b off cap hcap h
  have HI := Lib.hid (l05Is_ok h hn)
  rw [hs] at HI
  have HT := Lib.hid (l05Text_ok h hs)
  clear h
  go_enter Tryz.func7, Tryz.ntmps7
  go_wp2_with fail
  refine HI.out.mono ?_
  rintro e w' ⟨rfl, rfl⟩
  go_wp2_with fail
  refine HT.out.mono ?_
  rintro e w' ⟨⟨t, rfl, ht⟩, hb⟩
  rw [text_of ht]
  have HB := Lib.hid hb
  clear hb ht
  go_wp2_with fail
  go_ret2
  exact ⟨rfl, HB.out⟩

theorem specText_no {n : Nat} {P : Nat → Pu} (hn : n ≤ 1048576) (hs : seqB n P = false) : GivesT 7 n P ⟨#[]⟩ 1 := by
  intro w b off cap hcap h
  have HI := Lib.hid (l05Is_ok h hn)
  rw [hs] at HI
  clear h
  go_enter Tryz.func7, Tryz.ntmps7
  go_wp2_with fail
  refine HI.out.mono ?_
  rintro e w' ⟨rfl, rfl⟩
  go_wp2_with fail
  go_ret2
  exact ⟨rfl, Below.refl _ _⟩

theorem specText {n : Nat} {P : Nat → Pu} (hn : n ≤ 1048576) : GivesT 7 n P (if seqB n P then ⟨(tx P n).toArray⟩ else ⟨#[]⟩) (if seqB n P then 0 else 1) := by
  cases hs : seqB n P
  · simpa using specText_no hn hs
  · simpa using specText_yes hn hs
end Go.Proofs.YtojcdhnpdinbpaaGreatDoor
