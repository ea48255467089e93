/- Walks: HalvedTurn of the program and of the specification. -/
import Derived.Test.YtmaohbddmafifaaH2
import Derived.Test.YtmaohbddmafifaaT2m
import Derived.Test.YtmaohbddmafifaaIn
namespace Go.Proofs.Ytmaohbddmafifaa
open Go.RowKit

/-- The turn about an axis. -/
def aboutOf (i : Int) (c s : Nat) : Value := if i = 0 then tableOf c s 0 0 else if i = 1 then tableOf c 0 s 0 else tableOf c 0 0 s

def noTable : Value := .agg #[.complex .f32 0 0, .complex .f32 0 0, .complex .f32 0 0, .complex .f32 0 0]

def halfRes (i k : Int) : Value := if (0 ≤ i ∧ i ≤ 2) ∧ (0 ≤ k ∧ k ≤ 24) then .tuple #[aboutOf i (halved k.toNat).1 (halved k.toNat).2, .int .i64 0] else .tuple #[noTable, .int .i64 2]

set_option maxHeartbeats 1000000 in
theorem about_any (i : Int) (c s : Nat) (w : World) (hi : i = 0 ∨ i = 1 ∨ i = 2) :
    Calls Try.prog 60 #[.int .i64 i, .float .f32 c, .float .f32 s] w fun e w' => e = .returned (aboutOf i c s) ∧ Below w.heap.size w w' := by
  have HT := Lib.hid (fun a b c d w => l03Table_any a b c d w)
  unfold aboutOf
  unfold tableOf at *
  rcases hi with rfl | rfl | rfl
  · rw [if_pos rfl]
    go_enter Try.func60, Try.ntmps60
    go_wp2_with fail
    refine (HT.out _ _ _ _ _).mono ?_
    rintro e w2 ⟨rfl, hb2⟩
    obtain ⟨hc2, hf2⟩ := bcell hb2
    have hz2 : w.heap.size < w2.heap.size := by have := hb2.size; simp at this; omega
    have HB2 := Lib.hid hb2
    clear hb2
    go_wp2_with fail
    refine bodyPost_ret (v := .agg #[.complex .f32 c (Op.negFloat .f32 0), .complex .f32 (Op.negFloat .f32 0) (Op.negFloat .f32 s), .complex .f32 0 (Op.negFloat .f32 s), .complex .f32 c 0]) (by simp [results, Try.results60, go_sem, hc2, hz2]) rfl ⟨rfl, ?_⟩
    all_goals repeat first
      | exact Below.refl _ _
      | refine Below.setCell ?_ ?_ _
      | refine below_step HB2.out ?_ ?_
      | refine Below.alloc ?_ ?_ _
    all_goals first | omega | (simp; done) | (simp; omega)
  · rw [if_neg (by decide), if_pos rfl]
    go_enter Try.func60, Try.ntmps60
    go_wp2_with fail
    refine (HT.out _ _ _ _ _).mono ?_
    rintro e w2 ⟨rfl, hb2⟩
    obtain ⟨hc2, hf2⟩ := bcell hb2
    have hz2 : w.heap.size < w2.heap.size := by have := hb2.size; simp at this; omega
    have HB2 := Lib.hid hb2
    clear hb2
    go_wp2_with fail
    refine bodyPost_ret (v := .agg #[.complex .f32 c (Op.negFloat .f32 0), .complex .f32 (Op.negFloat .f32 s) (Op.negFloat .f32 0), .complex .f32 s (Op.negFloat .f32 0), .complex .f32 c 0]) (by simp [results, Try.results60, go_sem, hc2, hz2]) rfl ⟨rfl, ?_⟩
    all_goals repeat first
      | exact Below.refl _ _
      | refine Below.setCell ?_ ?_ _
      | refine below_step HB2.out ?_ ?_
      | refine Below.alloc ?_ ?_ _
    all_goals first | omega | (simp; done) | (simp; omega)
  · rw [if_neg (by decide), if_neg (by decide)]
    go_enter Try.func60, Try.ntmps60
    go_wp2_with fail
    refine (HT.out _ _ _ _ _).mono ?_
    rintro e w2 ⟨rfl, hb2⟩
    obtain ⟨hc2, hf2⟩ := bcell hb2
    have hz2 : w.heap.size < w2.heap.size := by have := hb2.size; simp at this; omega
    have HB2 := Lib.hid hb2
    clear hb2
    go_wp2_with fail
    refine bodyPost_ret (v := .agg #[.complex .f32 c (Op.negFloat .f32 s), .complex .f32 (Op.negFloat .f32 0) (Op.negFloat .f32 0), .complex .f32 0 (Op.negFloat .f32 0), .complex .f32 c s]) (by simp [results, Try.results60, go_sem, hc2, hz2]) rfl ⟨rfl, ?_⟩
    all_goals repeat first
      | exact Below.refl _ _
      | refine Below.setCell ?_ ?_ _
      | refine below_step HB2.out ?_ ?_
      | refine Below.alloc ?_ ?_ _
    all_goals first | omega | (simp; done) | (simp; omega)
end Go.Proofs.Ytmaohbddmafifaa
