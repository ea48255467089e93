/- Lists of float32 held against each other, marked, looked at again. -/
import Derived.Test.YtibmaflcfmphgaaOv
import Derived.Test.YtibmaflcfmphgaaSame
import Derived.Test.YtibmaflcfmphgaaMem
import Derived.BigQuiet
import Derived.Deep.QuietTactic
import Derived.WalkSmall
import Derived.Laws.Cover2
namespace Go.Proofs.Ytibmaflcfmphgaa
open Go.RowKit

theorem same_call0 {P : Program} {f : FuncId} {args : Array Value} {v : Value} (c : ∀ W : World, Calls P f args W fun e W' => e = .returned v ∧ W = W') {w : World} (n : Nat) :
    Calls P f args (w.drewN n) fun e w' => e = .returned v ∧ ∃ m, w' = w.drewN m :=
  (c (w.drewN n)).mono fun _ _ ⟨he, hw⟩ => ⟨he, n, hw.symm⟩

set_option maxRecDepth 100000 in
set_option maxHeartbeats 2000000 in
theorem eqFloat32S_ok {w : World} {v v' : Value} {m : Nat} {X : Nat → Nat} (h : RdV w v m (fun i => .float .f32 (X i))) (h' : RdV w v' m (fun i => .float .f32 (X i))) (hm : m ≤ 400) (hX : ∀ i, i < m → X i < 4294967296 ∧ fin (X i) = true) :
    Calls Try.prog 8 #[v, v'] w fun e w' => e = .returned (.bool true) ∧ Below w.heap.size w w' := by
  obtain ⟨a, cap, rfl, h⟩ := h
  obtain ⟨a', cap', rfl, h'⟩ := h'
  go_enter Try.func8, Try.ntmps8
  go_wp2_with fail
  go_loopw [5] (fun i wr => ∃ k : Nat, i = .int .i64 k ∧ k ≤ m ∧ Below w.heap.size w wr) (fun i _ => m - (intOf i).toNat)
  case atStart => exact ⟨0, rfl, Nat.zero_le _, Below.refl _ _⟩
  case round =>
    obtain ⟨k, rfl, hk, hb⟩ := hrel
    by_cases hlt : k < m
    · obtain ⟨B, rfl, hl, hc⟩ := h (by omega)
      obtain ⟨B', rfl, hl', hc'⟩ := h' (by omega)
      have c := (hb.cell (p := ⟨B, k, none⟩) hl).trans (hc k hlt)
      have d := (hb.cell (p := ⟨B', k, none⟩) hl').trans (hc' k hlt)
      obtain ⟨y, cv, sm⟩ := same_word (X k) (hX k hlt).1 (hX k hlt).2
      have HSm := Lib.hid sm
      have HB := Lib.hid hb
      have hlt' : (k : Int) < (m : Int) := by omega
      clear hb hc hc' h h' sm hX
      go_wp2_with fail
      go_quiet ((go_at_call 7; exact same_call0 HSm.out _))
      go_wp2_with fail
      go_roundw
      case rel => exact ⟨k + 1, by go_num, by omega, by exact Go.below_drewN HB.out _⟩
      case measure => simp [intOf]; omega
    · have he : k = m := by omega
      subst he
      have hlt' : ¬ ((k : Int) < (k : Int)) := by omega
      have HB := Lib.hid hb
      clear hb h h'
      go_wp2_with fail
      go_ret
      exact ⟨rfl, HB.out⟩

theorem marks_self : ((List.range 410).all fun j => FloatKind.f32.format.order (floatOfInt .f32 (j : Nat)) (floatOfInt .f32 (j : Nat)) == some .eq) = true := by decide +kernel

theorem mark_self (j : Nat) (h : j < 410) : (FloatKind.f32.format.order (floatOfInt .f32 (j : Int)) (floatOfInt .f32 (j : Int)) == some .eq) = true := List.all_eq_true.1 marks_self j (List.mem_range.2 h)
