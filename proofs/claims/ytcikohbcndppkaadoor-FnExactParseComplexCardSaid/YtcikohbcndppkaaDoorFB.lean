/- The library's formatBits at base 16. -/
import Derived.Test.YtcikohbcndppkaaDoorPP
import Derived.RegionTactic
import Derived.LoopTactic
import Derived.Laws.IdiomStrings
import Derived.Laws.BitsAllLaws
import Derived.Lib.ItoaMem
import Derived.Deep.DeepCutAuto
namespace Go.Proofs.YtcikohbcndppkaaDoor
open Go.RowKit

/-- The library's table of the places of powers of two, at the one place that is read. -/
def TabVar (w : World) : Prop := w.cell? ⟨6, 15, none⟩ = some (.int .u8 4)

theorem TabVar.below {w w' : World} (h : TabVar w) (hb : Below w.heap.size w w') : TabVar w' := by
  have b := World.block_lt_of_cell? w ⟨6, 15, none⟩ h
  unfold TabVar
  rw [hb.cell (p := ⟨6, 15, none⟩) b]; exact h

theorem trailing_16 (w : World) (h : TabVar w) :
    Calls Tryd.prog 50 #[.int .u64 16] w fun e w' => e = .returned (.int .i64 4) ∧ w = w' := by
  unfold TabVar at h
  have h1 : IntKind.u64.wrap (-16) = 18446744073709551600 := by decide +kernel
  have h2 : bits .and .u64 16 18446744073709551600 = 16 := by decide +kernel
  have h3 : IntKind.u64.wrap 4573923408821661840 = 4573923408821661840 := by decide +kernel
  go_enter Tryd.func50, Tryd.ntmps50
  go_wp2
  go_ret
  exact ⟨rfl, rfl⟩

/-- The array of signs: from place i on it holds l. -/
def Arr (B : Nat) (w : World) (i : Nat) (l : List UInt8) (wr : World) : Prop := Below B w wr ∧ B < wr.heap.size ∧ i + l.length = 65 ∧ (∀ j, j < 65 → (wr.cell? ⟨B, j, none⟩).isSome = true ∧ wr.frozen? ⟨B, j, none⟩ = false) ∧
  ∀ j (hj : j < l.length), wr.cell? ⟨B, i + j, none⟩ = some (.int .u8 (l[j].toNat : Int))

theorem Arr.store {B : Nat} {w : World} {i : Nat} {l : List UInt8} {wr : World} (h : Arr B w (i + 1) l wr) (c : UInt8) : Arr B w i (c :: l) (wr.setCell ⟨B, i, none⟩ (.int .u8 (c.toNat : Int))) := by
  obtain ⟨h1, h2, h3, h4, h5⟩ := h
  refine ⟨h1.setCell (by simp) _, by rw [World.size_setCell]; exact h2, by simp; omega, fun j hj => ?_, fun j hj => ?_⟩
  · rw [World.frozen?_setCell]
    refine ⟨?_, (h4 j hj).2⟩
    by_cases hji : j = i
    · subst hji
      rw [World.cell?_setCell_same' _ _ _ (h4 j hj).1]; rfl
    · rw [World.cell?_setCell_other (h := by simp <;> omega)]
      exact (h4 j hj).1
  · cases j with
    | zero =>
      rw [Nat.add_zero, World.cell?_setCell_same' _ _ _ (h4 i (by omega)).1]; rfl
    | succ j =>
      rw [World.cell?_setCell_other (h := by simp <;> omega), show i + (j + 1) = i + 1 + j by omega, List.getElem_cons_succ]
      exact h5 j (by simpa using hj)

theorem Arr.text {B : Nat} {w : World} {i : Nat} {l : List UInt8} {wr : World} (h : Arr B w i l wr) (cap : Nat) : (convert 67 9 (.slice (some ⟨B, i, none⟩) l.length cap)).run Tryd.prog wr = .ok (.string ⟨l.toArray⟩) wr :=
  run_convert_bytes_back (P := Tryd.prog) wr 67 9 5 ⟨B, i, none⟩ cap l Tryd.underlying67 Tryd.underlying5 Tryd.underlying9 (fun j hj => by rw [Lib.add_plain]; exact h.2.2.2.2 j hj)

theorem digit_at (d : Nat) (hd : d < 16) (W : World) : (Instr.index 9 (.string ⟨#[48, 49, 50, 51, 52, 53, 54, 55, 56, 57, 97, 98, 99, 100, 101, 102, 103, 104, 105, 106, 107, 108, 109, 110, 111, 112, 113, 114, 115, 116, 117, 118, 119, 120, 121, 122]⟩) (.int .u64 (d : Int))).run Tryd.prog W = .ok (.int .u8 ((Hex.ch d).toNat : Int)) W := by
  rcases (show d = 0 ∨ d = 1 ∨ d = 2 ∨ d = 3 ∨ d = 4 ∨ d = 5 ∨ d = 6 ∨ d = 7 ∨ d = 8 ∨ d = 9 ∨ d = 10 ∨ d = 11 ∨ d = 12 ∨ d = 13 ∨ d = 14 ∨ d = 15 by omega) with rfl | rfl | rfl | rfl | rfl | rfl | rfl | rfl | rfl | rfl | rfl | rfl | rfl | rfl | rfl | rfl <;> kernel_rfl

theorem mask_15 (n : Nat) (hn : n < 18446744073709551616) : bits .and .u64 (n : Int) 15 = ((n % 16 : Nat) : Int) := by
  have h := Go.u64_and_nat n 15 hn (by omega)
  rw [show ((15 : Nat) : Int) = 15 from rfl] at h
  rw [h, show (15 : Nat) = 2 ^ 4 - 1 from rfl, Nat.and_two_pow_sub_one_eq_mod]

def zeros65 : Array Value := Array.replicate 65 (.int .u8 0)

theorem zero_65 (W : World) : (zeroValue 84).run Tryd.prog W = .ok (.agg zeros65) W := by kernel_rfl

theorem arr_new (w : World) (t : TypeId) : Arr w.heap.size w 65 [] (w.alloc (.cells zeros65 t)) := by
  refine ⟨(Below.refl _ _).alloc (Nat.le_refl _) _, by simp, by simp, fun j hj => ?_, fun j hj => absurd hj (by simp)⟩
  rw [World.cell?_alloc_new, World.frozen?_alloc_new]
  refine ⟨?_, rfl⟩
  simp [zeros65, hj]

theorem slice_65 (B i : Nat) (hi : i < 65) (W : World) : (Instr.sliceAt 84 (.pointer (some ⟨B, 0, none⟩)) (some (.int .i64 (i : Int))) none none).run Tryd.prog W = .ok (.slice (some ⟨B, i, none⟩) (65 - i) (65 - i)) W := by
  have hal : Tryd.prog.arrayLen 84 = 65 := by kernel_rfl
  rw [run_sliceAt_array_l W 84 ⟨B, 0, none⟩ (by kernel_rfl) .i64 (i : Int) (by omega) (by rw [hal]; omega)]
  rw [hal]
  have hsz : (sizeOf (Tryd.prog.elem 84)).run Tryd.prog W = .ok 1 W := by kernel_rfl
  rw [hsz]
  simp only [Result.andThen_ok, slicedAt]
  rw [if_neg (by omega), Lib.add_plain]
  simp

set_option maxHeartbeats 4000000 in
set_option maxRecDepth 100000 in
theorem format_pos (n : Nat) (hn : n < 18446744073709551616) (w : World) (hT : TabVar w) :
    Calls Tryd.prog 44 #[.slice none 0 0, .int .u64 n, .int .i64 16, .bool false, .bool false] w fun e w' => e = .returned (.tuple #[.slice none 0 0, .string ⟨(Hex.txt n).toArray⟩]) ∧ Below w.heap.size w w' := by
  have HT := Lib.hid hT
  clear hT
  have hz := zero_65
  have hp : bits .and .i64 16 15 = 0 := by decide +kernel
  obtain ⟨a, ha⟩ : ∃ a : Int, a = (n : Int) := ⟨_, rfl⟩
  rw [← ha]
  go_enter Tryd.func44, Tryd.ntmps44
  go_wp2_with (first | (go_at_call 50; refine (trailing_16 _ (HT.out.below ((Below.refl _ _).alloc (Nat.le_refl _) _))).mono ?_; rintro e w' ⟨rfl, rfl⟩) | go_in)
  have HA0 := Lib.hid (arr_new w 84)
  have HLen := Lib.hid (Hex.txt_len n 15 (by omega))
  generalize w.alloc (.cells zeros65 84) = W1 at *
  go_loopw [1, 13] (fun vu vi wr => ∃ (a p : Int), vu = .int .u64 a ∧ vi = .int .i64 p ∧ 0 ≤ a ∧ a < 18446744073709551616 ∧ 1 ≤ p ∧ p ≤ 65 ∧ Hid (∃ l, Hex.txt n = Hex.txt a.toNat ++ l ∧ Arr w.heap.size w p.toNat l wr)) (fun vu _ _ => (intOf vu).toNat)
  case atStart => exact ⟨(n : Int), 65, rfl, rfl, by omega, by omega, by omega, by omega, Lib.hid ⟨[], by rw [List.append_nil]; rfl, HA0.out⟩⟩
  case round =>
    clear ha a
    obtain ⟨a, p, rfl, rfl, a0, a1, p0, p1, hl⟩ := hrel
    obtain ⟨i, rfl⟩ : ∃ i : Nat, p = (i : Int) + 1 := ⟨(p - 1).toNat, by omega⟩
    obtain ⟨m, rfl⟩ : ∃ m : Nat, a = (m : Int) := ⟨a.toNat, by omega⟩
    obtain ⟨l, hl1, hl2⟩ := hl.out
    rw [show ((m : Int)).toNat = m by omega] at hl1
    rw [show ((i : Int) + 1).toNat = i + 1 by omega] at hl2
    have hstore := hl2.store (Hex.ch (m % 16))
    have hcell := (hl2.2.2.2.1 i (by omega))
    obtain ⟨v, hcv0⟩ := Option.isSome_iff_exists.1 hcell.1
    have hfz := hcell.2
    have hmask := mask_15 m (by omega)
    have hix := digit_at (m % 16) (by omega)
    by_cases hm : 16 ≤ m
    · have hix' := hix
      rw [← hmask] at hix'
      have hb0 : (0 : Int) ≤ (i : Int) := by omega
      have hb1 : (i : Int) < 65 := by omega
      have hm' : (16 : Int) ≤ (m : Int) := by omega
      clear hix hmask hcell hstore hl
      have hlen := HLen.out
      have hne := Hex.txt_ne m
      have hll := hl2.2.2.1
      rw [hl1, List.length_append] at hlen
      have hne' : (Hex.txt m).length ≠ 0 := fun h => hne (List.length_eq_zero_iff.1 h)
      have hi1 : 1 ≤ i := by omega
      have HNew : Hid (∃ l, Hex.txt n = Hex.txt (m / 16) ++ l ∧ Arr w.heap.size w i l (wr.setCell ⟨w.heap.size, i, none⟩ (.int .u8 ((Hex.ch (m % 16)).toNat : Int)))) := Lib.hid ⟨Hex.ch (m % 16) :: l, by
        rw [hl1, Hex.txt_high m (by omega), List.append_assoc]; rfl, hl2.store _⟩
      clear hlen hne hll hne' hl1 hl2
      go_wp2_with fail
      refine ⟨⟨((m / 16 : Nat) : Int), (i : Int), congrArg _ (by omega), rfl, by omega, by omega, by omega, by omega, ?_⟩, by simp [intOf]; omega⟩
      rw [show (((m / 16 : Nat) : Int)).toNat = m / 16 by omega, show ((i : Int)).toNat = i by omega]
      exact HNew
    · have hm16 : m < 16 := by omega
      have hix' := digit_at m hm16
      have hb0 : (0 : Int) ≤ (i : Int) := by omega
      have hb1 : (i : Int) < 65 := by omega
      have hm' : (m : Int) < 16 := by omega
      have HFin := Lib.hid (hl2.store (Hex.ch m))
      have HText : Hid (Hex.txt n = Hex.ch m :: l) := Lib.hid (by rw [hl1, Hex.txt_low m hm16]; rfl)
      have hm0 : 0 ≤ (m : Int) := by omega
      clear hix hmask hcell hstore hl hm hl1 hl2 hm16 a1 a0 hn
      generalize (m : Int) = b at hix' hm' hm0 ⊢
      go_upto_region 30 with fail
      have hsl := slice_65 w.heap.size i (by omega)
      have hcv := HFin.out.text (65 - i)
      rw [show (Hex.ch m :: l).length = 65 - i by have := HFin.out.2.2.1; omega, ← HText.out] at hcv
      have HBel := Lib.hid HFin.out.1
      generalize wr.setCell ⟨w.heap.size, i, none⟩ (.int .u8 ((Hex.ch m).toNat : Int)) = W2 at *
      clear HFin hix' hm' hm0 hcv0 hfz hb0 hb1
      go_wp2_with fail
      go_ret2
      exact ⟨rfl, HBel.out⟩
set_option maxHeartbeats 4000000 in
set_option maxRecDepth 100000 in
theorem format_neg (n : Nat) (hn : n < 18446744073709551616) (u : Int) (hu : IntKind.u64.wrap (-u) = (n : Int)) (w : World) (hT : TabVar w) :
    Calls Tryd.prog 44 #[.slice none 0 0, .int .u64 u, .int .i64 16, .bool true, .bool false] w fun e w' => e = .returned (.tuple #[.slice none 0 0, .string ⟨(45 :: Hex.txt n).toArray⟩]) ∧ Below w.heap.size w w' := by
  have HT := Lib.hid hT
  clear hT
  have hz := zero_65
  have hp : bits .and .i64 16 15 = 0 := by decide +kernel
  go_enter Tryd.func44, Tryd.ntmps44
  go_wp2_with (first | (go_at_call 50; refine (trailing_16 _ (HT.out.below ((Below.refl _ _).alloc (Nat.le_refl _) _))).mono ?_; rintro e w' ⟨rfl, rfl⟩) | go_in)
  have HA0 := Lib.hid (arr_new w 84)
  have HLen := Lib.hid (Hex.txt_len n 15 (by omega))
  generalize w.alloc (.cells zeros65 84) = W1 at *
  go_loopw [1, 13] (fun vu vi wr => ∃ (a p : Int), vu = .int .u64 a ∧ vi = .int .i64 p ∧ 0 ≤ a ∧ a < 18446744073709551616 ∧ 1 ≤ p ∧ p ≤ 65 ∧ Hid (∃ l, Hex.txt n = Hex.txt a.toNat ++ l ∧ Arr w.heap.size w p.toNat l wr)) (fun vu _ _ => (intOf vu).toNat)
  case atStart => exact ⟨(n : Int), 65, rfl, rfl, by omega, by omega, by omega, by omega, Lib.hid ⟨[], by rw [List.append_nil]; rfl, HA0.out⟩⟩
  case round =>
    clear hu
    obtain ⟨a, p, rfl, rfl, a0, a1, p0, p1, hl⟩ := hrel
    obtain ⟨i, rfl⟩ : ∃ i : Nat, p = (i : Int) + 1 := ⟨(p - 1).toNat, by omega⟩
    obtain ⟨m, rfl⟩ : ∃ m : Nat, a = (m : Int) := ⟨a.toNat, by omega⟩
    obtain ⟨l, hl1, hl2⟩ := hl.out
    rw [show ((m : Int)).toNat = m by omega] at hl1
    rw [show ((i : Int) + 1).toNat = i + 1 by omega] at hl2
    have hstore := hl2.store (Hex.ch (m % 16))
    have hcell := (hl2.2.2.2.1 i (by omega))
    obtain ⟨v, hcv0⟩ := Option.isSome_iff_exists.1 hcell.1
    have hfz := hcell.2
    have hmask := mask_15 m (by omega)
    have hix := digit_at (m % 16) (by omega)
    by_cases hm : 16 ≤ m
    · have hix' := hix
      rw [← hmask] at hix'
      have hb0 : (0 : Int) ≤ (i : Int) := by omega
      have hb1 : (i : Int) < 65 := by omega
      have hm' : (16 : Int) ≤ (m : Int) := by omega
      clear hix hmask hcell hstore hl
      have hlen := HLen.out
      have hne := Hex.txt_ne m
      have hll := hl2.2.2.1
      rw [hl1, List.length_append] at hlen
      have hne' : (Hex.txt m).length ≠ 0 := fun h => hne (List.length_eq_zero_iff.1 h)
      have hi1 : 1 ≤ i := by omega
      have HNew : Hid (∃ l, Hex.txt n = Hex.txt (m / 16) ++ l ∧ Arr w.heap.size w i l (wr.setCell ⟨w.heap.size, i, none⟩ (.int .u8 ((Hex.ch (m % 16)).toNat : Int)))) := Lib.hid ⟨Hex.ch (m % 16) :: l, by
        rw [hl1, Hex.txt_high m (by omega), List.append_assoc]; rfl, hl2.store _⟩
      clear hlen hne hll hne' hl1 hl2
      go_wp2_with fail
      refine ⟨⟨((m / 16 : Nat) : Int), (i : Int), congrArg _ (by omega), rfl, by omega, by omega, by omega, by omega, ?_⟩, by simp [intOf]; omega⟩
      rw [show (((m / 16 : Nat) : Int)).toNat = m / 16 by omega, show ((i : Int)).toNat = i by omega]
      exact HNew
    · have hm16 : m < 16 := by omega
      have hix' := digit_at m hm16
      have hb0 : (0 : Int) ≤ (i : Int) := by omega
      have hb1 : (i : Int) < 65 := by omega
      have hm' : (m : Int) < 16 := by omega
      have hlen := HLen.out
      have hll := hl2.2.2.1
      rw [hl1, Hex.txt_low m hm16, List.length_append] at hlen
      simp only [List.length_cons, List.length_nil] at hlen
      obtain ⟨k, rfl⟩ : ∃ k : Nat, i = k + 1 := ⟨i - 1, by omega⟩
      clear hlen hll
      have hfin1 := hl2.store (Hex.ch m)
      have hcell2 := hfin1.2.2.2.1 k (by omega)
      obtain ⟨v2, hcv2⟩ := Option.isSome_iff_exists.1 hcell2.1
      have hfz2 := hcell2.2
      have hp2 : (((k + 1 : Nat) : Int)) - 1 = (k : Int) := by omega
      have hk0 : (0 : Int) ≤ (k : Int) := by omega
      have hk1 : (k : Int) < 65 := by omega
      have HFin := Lib.hid (hfin1.store 45)
      clear hcell2 hfin1
      have HText : Hid (45 :: Hex.txt n = 45 :: Hex.ch m :: l) := Lib.hid (by rw [hl1, Hex.txt_low m hm16]; rfl)
      have hm0 : 0 ≤ (m : Int) := by omega
      clear hix hmask hcell hstore hl hm hl1 hl2 hm16 a1 a0 hn
      generalize (m : Int) = b at hix' hm' hm0 ⊢
      go_upto_region 30 with fail
      have hsl := slice_65 w.heap.size k (by omega)
      have hcv := HFin.out.text (65 - k)
      have h45 : (((45 : UInt8).toNat : Nat) : Int) = 45 := rfl
      rw [show (45 :: Hex.ch m :: l).length = 65 - k by have := HFin.out.2.2.1; omega, ← HText.out, h45] at hcv
      have HBel := HFin.out.1
      rw [h45] at HBel
      generalize (wr.setCell ⟨w.heap.size, k + 1, none⟩ (.int .u8 ((Hex.ch m).toNat : Int))).setCell ⟨w.heap.size, k, none⟩ (.int .u8 45) = W2 at hcv HBel ⊢
      have HBel := Lib.hid HBel
      clear HFin hix' hm' hm0 hcv0 hfz hb0 hb1 hcv2 hfz2 hp2 hk0 hk1
      go_wp2_with fail
      go_ret2
      exact ⟨rfl, HBel.out⟩
end Go.Proofs.YtcikohbcndppkaaDoor
