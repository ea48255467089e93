/- The library's ParseInt at base 16 and 64 bits. -/
import Derived.Test.YtcikohbcndppkaaDoorPA
import Derived.Lib.IfaceNeq
import Derived.Lib.ItoaWalk
namespace Go.Proofs.YtcikohbcndppkaaDoor
open Go.RowKit

/-- A number of 64 bits with a sign, and no error, or one of the two. -/
def IOut (e : Ending) : Prop := ∃ (x : Int) (v : Value), e = .returned (.tuple #[.int .i64 x, v]) ∧ -9223372036854775808 ≤ x ∧ x ≤ 9223372036854775807 ∧ (v = .nilIface ∨ v = .iface 57 (.int .i64 1) ∨ v = .iface 57 (.int .i64 2))

set_option maxRecDepth 100000 in
theorem uint_all (t : ByteArray) (hmax : t.size ≤ 9223372036854775806) (w : World) :
    Calls Tryd.prog 28 #[.string t, .int .i64 16, .int .i64 64] w fun e w' => UOut e ∧ Below w.heap.size w w' := by
  by_cases h : t.size = 0
  · obtain rfl : t = ⟨#[]⟩ := by
      obtain ⟨⟨l⟩⟩ := t
      have : l = [] := List.length_eq_zero_iff.1 h
      rw [this]
    clear h hmax
    go_enter Tryd.func28, Tryd.ntmps28
    go_wp2
    go_ret2
    exact ⟨⟨_, _, rfl, by omega, by omega, .inr (.inr rfl)⟩, Below.refl _ _⟩
  · exact uint_any t h hmax w

theorem nonempty_of (s : ByteArray) (c : UInt8) (r : List UInt8) (h : s.data.toList = c :: r) : s.size = r.length + 1 ∧ 0 < s.size ∧ s.toList.isEmpty = false := by
  have hs : s.size = r.length + 1 := by rw [Lib.size_eq, h]; rfl
  refine ⟨hs, by omega, ?_⟩
  rw [← decide_eq_emptyBytes]
  exact decide_eq_false (fun e => by rw [e] at hs; simp at hs)

theorem tail_of (s : ByteArray) (c : UInt8) (r : List UInt8) (h : s.data.toList = c :: r) : (s.extract 1 s.size).data.toList = r ∧ (s.extract 1 s.size).size = r.length ∧ (∀ (P : Program) W (ty : TypeId), P.underlying ty = some .string → (Instr.slice ty (.string s) (some (.int .i64 1)) none none).run P W = .ok (.string (s.extract 1 s.size)) W) := by
  obtain ⟨hs, hpos, _⟩ := nonempty_of s c r h
  have h1 : (s.extract 1 s.size).data.toList = r := by
    rw [Lib.extract_data, h, List.drop_succ_cons, List.drop_zero, List.take_of_length_le (by omega)]
  refine ⟨h1, by rw [Lib.size_eq, h1], fun P W ty ht => ?_⟩
  rw [run_slice_string_from_if W ty s .i64 _ ht, if_pos ⟨by omega, by omega⟩]
  rfl

theorem neq_err (a b : Int) (W : World) : (binOp .neq 42 (.iface 57 (.int .i64 a)) (.iface 57 (.int .i64 b))).run Tryd.prog W = .ok (.bool (a != b)) W :=
  Lib.run_neq_iface_int W a b Tryd.underlying42 (by kernel_rfl) Tryd.underlying57

set_option maxHeartbeats 8000000 in
set_option maxRecDepth 100000 in
theorem int_good_pos (s : ByteArray) (n : Nat) (hn : n < 9223372036854775808) (hs : s.data.toList = Hex.txt n) (hmax : s.size ≤ 9223372036854775806) (w : World) :
    Calls Tryd.prog 19 #[.string s, .int .i64 16, .int .i64 64] w fun e w' => e = .returned (.tuple #[.int .i64 n, .nilIface]) ∧ Below w.heap.size w w' := by
  obtain ⟨c0, r, hcr⟩ := List.exists_cons_of_ne_nil (Hex.txt_ne n)
  have hL := hs.trans hcr
  have hx := Hex.hex_nat (Hex.txt_head_ne n r c0 hcr)
  have i43 : ¬ (c0.toNat : Int) = 43 := by omega
  have i45 : ¬ (c0.toNat : Int) = 45 := by omega
  obtain ⟨hsz, hpos, hemp⟩ := nonempty_of s c0 r hL
  have hs0 : s[0]'hpos = c0 := by have := Lib.getD_at s 0 hpos; rw [hL] at this; exact this
  have hmin : wrap64 (-wrap64 9223372036854775808) = -9223372036854775808 := by
    unfold wrap64
    omega
  have hq2 : ∀ W, (binOp .neq 42 (.iface 57 (.int .i64 2)) (.iface 57 (.int .i64 1))).run Tryd.prog W = .ok (.bool true) W := fun W => neq_err 2 1 W
  have hq1 : ∀ W, (binOp .neq 42 (.iface 57 (.int .i64 1)) (.iface 57 (.int .i64 1))).run Tryd.prog W = .ok (.bool false) W := fun W => neq_err 1 1 W
  have HU := Lib.hid (fun w => uint_good s n (by omega) hs hmax w)
  clear hL hs hcr hx
  obtain ⟨a, ha⟩ : ∃ a : Int, a = (n : Int) := ⟨_, rfl⟩
  rw [← ha] at HU ⊢
  have a0 : 0 ≤ a := by omega
  have a1 : a < 9223372036854775808 := by omega
  clear ha hn
  go_enter Tryd.func19, Tryd.ntmps19
  go_wp2_with fail
  refine (HU.out _).mono ?_
  rintro e w1 ⟨rfl, hb⟩
  have HB := Lib.hid hb
  clear hb
  go_wp2_with fail
  go_ret2
  exact ⟨rfl, HB.out⟩

set_option maxHeartbeats 8000000 in
set_option maxRecDepth 100000 in
theorem int_good_neg (s : ByteArray) (n : Nat) (hn : n ≤ 9223372036854775808) (hL : s.data.toList = 45 :: Hex.txt n) (hmax : s.size ≤ 9223372036854775806) (w : World) :
    Calls Tryd.prog 19 #[.string s, .int .i64 16, .int .i64 64] w fun e w' => e = .returned (.tuple #[.int .i64 (-(n : Int)), .nilIface]) ∧ Below w.heap.size w w' := by
  obtain ⟨r, hr⟩ : ∃ r, r = Hex.txt n := ⟨_, rfl⟩
  rw [← hr] at hL
  obtain ⟨hsz, hpos, hemp⟩ := nonempty_of s 45 r hL
  have hs0 : s[0]'hpos = 45 := by have := Lib.getD_at s 0 hpos; rw [hL] at this; exact this
  have hmin : wrap64 (-wrap64 9223372036854775808) = -9223372036854775808 := by
    unfold wrap64
    omega
  have hq2 : ∀ W, (binOp .neq 42 (.iface 57 (.int .i64 2)) (.iface 57 (.int .i64 1))).run Tryd.prog W = .ok (.bool true) W := fun W => neq_err 2 1 W
  have hq1 : ∀ W, (binOp .neq 42 (.iface 57 (.int .i64 1)) (.iface 57 (.int .i64 1))).run Tryd.prog W = .ok (.bool false) W := fun W => neq_err 1 1 W
  obtain ⟨htl, hts, hsl0⟩ := tail_of s 45 r hL
  have hsl : ∀ W, (Instr.slice 9 (.string s) (some (.int .i64 1)) none none).run Tryd.prog W = .ok (.string (s.extract 1 s.size)) W := fun W => hsl0 Tryd.prog W 9 Tryd.underlying9
  generalize s.extract 1 s.size = t at hsl htl hts
  have HU := Lib.hid (fun w => uint_good t n (by omega) (htl.trans hr) (by omega) w)
  clear hL htl hr hsl0
  obtain ⟨a, ha⟩ : ∃ a : Int, a = (n : Int) := ⟨_, rfl⟩
  rw [← ha] at HU ⊢
  have a0 : 0 ≤ a := by omega
  have a1 : a ≤ 9223372036854775808 := by omega
  have hwn : wrap64 (-wrap64 a) = -a := by
    unfold wrap64
    omega
  clear ha hn
  go_enter Tryd.func19, Tryd.ntmps19
  go_wp2_with fail
  refine (HU.out _).mono ?_
  rintro e w1 ⟨rfl, hb⟩
  have HB := Lib.hid hb
  clear hb
  go_wp2_with fail
  go_ret2
  refine ⟨?_, HB.out⟩
  first | rfl | (simp only [hwn]; rfl)

set_option maxHeartbeats 8000000 in
set_option maxRecDepth 100000 in
theorem int_any_none (s : ByteArray) (c0 : UInt8) (r : List UInt8) (hL : s.data.toList = c0 :: r) (h43 : c0.toNat ≠ 43) (h45 : c0.toNat ≠ 45) (hmax : s.size ≤ 9223372036854775806) (w : World) :
    Calls Tryd.prog 19 #[.string s, .int .i64 16, .int .i64 64] w fun e w' => IOut e ∧ Below w.heap.size w w' := by
  obtain ⟨hsz, hpos, hemp⟩ := nonempty_of s c0 r hL
  have hs0 : s[0]'hpos = c0 := by have := Lib.getD_at s 0 hpos; rw [hL] at this; exact this
  have hmin : wrap64 (-wrap64 9223372036854775808) = -9223372036854775808 := by
    unfold wrap64
    omega
  have hq2 : ∀ W, (binOp .neq 42 (.iface 57 (.int .i64 2)) (.iface 57 (.int .i64 1))).run Tryd.prog W = .ok (.bool true) W := fun W => neq_err 2 1 W
  have hq1 : ∀ W, (binOp .neq 42 (.iface 57 (.int .i64 1)) (.iface 57 (.int .i64 1))).run Tryd.prog W = .ok (.bool false) W := fun W => neq_err 1 1 W
  have i43 : ¬ (c0.toNat : Int) = 43 := by omega
  have i45 : ¬ (c0.toNat : Int) = 45 := by omega
  have HU := Lib.hid (fun w => uint_any s (by omega) hmax w)
  clear hL
  go_enter Tryd.func19, Tryd.ntmps19
  go_wp2_with fail
  refine (HU.out _).mono ?_
  rintro e w1 ⟨⟨x, v, rfl, x0, x1, hv⟩, hb⟩
  have HB := Lib.hid hb
  clear hb
  rcases hv with rfl | rfl | rfl
  · by_cases hx : x < 9223372036854775808
    · go_wp2_with fail
      all_goals
        go_ret2
        refine ⟨⟨_, _, rfl, ?_, ?_, ?_⟩, HB.out⟩
        all_goals first | (simp; done) | omega
    · have hx' : 9223372036854775808 ≤ x := by omega
      go_wp2_with fail
      all_goals
        go_ret2
        refine ⟨⟨_, _, rfl, ?_, ?_, ?_⟩, HB.out⟩
        all_goals first | (simp; done) | omega
  · by_cases hx : x < 9223372036854775808
    · go_wp2_with fail
      all_goals
        go_ret2
        refine ⟨⟨_, _, rfl, ?_, ?_, ?_⟩, HB.out⟩
        all_goals first | (simp; done) | omega
    · have hx' : 9223372036854775808 ≤ x := by omega
      go_wp2_with fail
      all_goals
        go_ret2
        refine ⟨⟨_, _, rfl, ?_, ?_, ?_⟩, HB.out⟩
        all_goals first | (simp; done) | omega
  · by_cases hx : x < 9223372036854775808
    · go_wp2_with fail
      all_goals
        go_ret2
        refine ⟨⟨_, _, rfl, ?_, ?_, ?_⟩, HB.out⟩
        all_goals first | (simp; done) | omega
    · have hx' : 9223372036854775808 ≤ x := by omega
      go_wp2_with fail
      all_goals
        go_ret2
        refine ⟨⟨_, _, rfl, ?_, ?_, ?_⟩, HB.out⟩
        all_goals first | (simp; done) | omega

set_option maxHeartbeats 8000000 in
set_option maxRecDepth 100000 in
theorem int_any_plus (s : ByteArray) (r : List UInt8) (hL : s.data.toList = 43 :: r) (hmax : s.size ≤ 9223372036854775806) (w : World) :
    Calls Tryd.prog 19 #[.string s, .int .i64 16, .int .i64 64] w fun e w' => IOut e ∧ Below w.heap.size w w' := by
  obtain ⟨hsz, hpos, hemp⟩ := nonempty_of s 43 r hL
  have hs0 : s[0]'hpos = 43 := by have := Lib.getD_at s 0 hpos; rw [hL] at this; exact this
  have hmin : wrap64 (-wrap64 9223372036854775808) = -9223372036854775808 := by
    unfold wrap64
    omega
  have hq2 : ∀ W, (binOp .neq 42 (.iface 57 (.int .i64 2)) (.iface 57 (.int .i64 1))).run Tryd.prog W = .ok (.bool true) W := fun W => neq_err 2 1 W
  have hq1 : ∀ W, (binOp .neq 42 (.iface 57 (.int .i64 1)) (.iface 57 (.int .i64 1))).run Tryd.prog W = .ok (.bool false) W := fun W => neq_err 1 1 W
  obtain ⟨htl, hts, hsl0⟩ := tail_of s 43 r hL
  have hsl : ∀ W, (Instr.slice 9 (.string s) (some (.int .i64 1)) none none).run Tryd.prog W = .ok (.string (s.extract 1 s.size)) W := fun W => hsl0 Tryd.prog W 9 Tryd.underlying9
  generalize s.extract 1 s.size = t at hsl htl hts
  have HU := Lib.hid (fun w => uint_all t (by omega) w)
  clear hsl0 hL htl
  go_enter Tryd.func19, Tryd.ntmps19
  go_wp2_with fail
  refine (HU.out _).mono ?_
  rintro e w1 ⟨⟨x, v, rfl, x0, x1, hv⟩, hb⟩
  have HB := Lib.hid hb
  clear hb
  rcases hv with rfl | rfl | rfl
  · by_cases hx : x < 9223372036854775808
    · go_wp2_with fail
      all_goals
        go_ret2
        refine ⟨⟨_, _, rfl, ?_, ?_, ?_⟩, HB.out⟩
        all_goals first | (simp; done) | omega
    · have hx' : 9223372036854775808 ≤ x := by omega
      go_wp2_with fail
      all_goals
        go_ret2
        refine ⟨⟨_, _, rfl, ?_, ?_, ?_⟩, HB.out⟩
        all_goals first | (simp; done) | omega
  · by_cases hx : x < 9223372036854775808
    · go_wp2_with fail
      all_goals
        go_ret2
        refine ⟨⟨_, _, rfl, ?_, ?_, ?_⟩, HB.out⟩
        all_goals first | (simp; done) | omega
    · have hx' : 9223372036854775808 ≤ x := by omega
      go_wp2_with fail
      all_goals
        go_ret2
        refine ⟨⟨_, _, rfl, ?_, ?_, ?_⟩, HB.out⟩
        all_goals first | (simp; done) | omega
  · by_cases hx : x < 9223372036854775808
    · go_wp2_with fail
      all_goals
        go_ret2
        refine ⟨⟨_, _, rfl, ?_, ?_, ?_⟩, HB.out⟩
        all_goals first | (simp; done) | omega
    · have hx' : 9223372036854775808 ≤ x := by omega
      go_wp2_with fail
      all_goals
        go_ret2
        refine ⟨⟨_, _, rfl, ?_, ?_, ?_⟩, HB.out⟩
        all_goals first | (simp; done) | omega

set_option maxHeartbeats 8000000 in
set_option maxRecDepth 100000 in
theorem int_any_minus (s : ByteArray) (r : List UInt8) (hL : s.data.toList = 45 :: r) (hmax : s.size ≤ 9223372036854775806) (w : World) :
    Calls Tryd.prog 19 #[.string s, .int .i64 16, .int .i64 64] w fun e w' => IOut e ∧ Below w.heap.size w w' := by
  obtain ⟨hsz, hpos, hemp⟩ := nonempty_of s 45 r hL
  have hs0 : s[0]'hpos = 45 := by have := Lib.getD_at s 0 hpos; rw [hL] at this; exact this
  have hmin : wrap64 (-wrap64 9223372036854775808) = -9223372036854775808 := by
    unfold wrap64
    omega
  have hq2 : ∀ W, (binOp .neq 42 (.iface 57 (.int .i64 2)) (.iface 57 (.int .i64 1))).run Tryd.prog W = .ok (.bool true) W := fun W => neq_err 2 1 W
  have hq1 : ∀ W, (binOp .neq 42 (.iface 57 (.int .i64 1)) (.iface 57 (.int .i64 1))).run Tryd.prog W = .ok (.bool false) W := fun W => neq_err 1 1 W
  obtain ⟨htl, hts, hsl0⟩ := tail_of s 45 r hL
  have hsl : ∀ W, (Instr.slice 9 (.string s) (some (.int .i64 1)) none none).run Tryd.prog W = .ok (.string (s.extract 1 s.size)) W := fun W => hsl0 Tryd.prog W 9 Tryd.underlying9
  generalize s.extract 1 s.size = t at hsl htl hts
  have HU := Lib.hid (fun w => uint_all t (by omega) w)
  clear hsl0 hL htl
  go_enter Tryd.func19, Tryd.ntmps19
  go_wp2_with fail
  refine (HU.out _).mono ?_
  rintro e w1 ⟨⟨x, v, rfl, x0, x1, hv⟩, hb⟩
  have HB := Lib.hid hb
  clear hb
  rcases hv with rfl | rfl | rfl
  · by_cases hx : x ≤ 9223372036854775808
    · have hwn : wrap64 (-wrap64 x) = -x := by
        unfold wrap64
        omega
      go_wp2_with fail
      all_goals
        go_ret2
        refine ⟨⟨_, _, rfl, ?_, ?_, ?_⟩, HB.out⟩
        all_goals first | (simp only [hwn]; omega) | (simp only [hmin]; omega) | (simp; done) | omega
    · have hx' : 9223372036854775808 < x := by omega
      go_wp2_with fail
      all_goals
        go_ret2
        refine ⟨⟨_, _, rfl, ?_, ?_, ?_⟩, HB.out⟩
        all_goals first | (simp only [hmin]; omega) | (simp; done) | omega
  · by_cases hx : x ≤ 9223372036854775808
    · have hwn : wrap64 (-wrap64 x) = -x := by
        unfold wrap64
        omega
      go_wp2_with fail
      all_goals
        go_ret2
        refine ⟨⟨_, _, rfl, ?_, ?_, ?_⟩, HB.out⟩
        all_goals first | (simp only [hwn]; omega) | (simp only [hmin]; omega) | (simp; done) | omega
    · have hx' : 9223372036854775808 < x := by omega
      go_wp2_with fail
      all_goals
        go_ret2
        refine ⟨⟨_, _, rfl, ?_, ?_, ?_⟩, HB.out⟩
        all_goals first | (simp only [hmin]; omega) | (simp; done) | omega
  · by_cases hx : x ≤ 9223372036854775808
    · have hwn : wrap64 (-wrap64 x) = -x := by
        unfold wrap64
        omega
      go_wp2_with fail
      all_goals
        go_ret2
        refine ⟨⟨_, _, rfl, ?_, ?_, ?_⟩, HB.out⟩
        all_goals first | (simp only [hwn]; omega) | (simp only [hmin]; omega) | (simp; done) | omega
    · have hx' : 9223372036854775808 < x := by omega
      go_wp2_with fail
      all_goals
        go_ret2
        refine ⟨⟨_, _, rfl, ?_, ?_, ?_⟩, HB.out⟩
        all_goals first | (simp only [hmin]; omega) | (simp; done) | omega
end Go.Proofs.YtcikohbcndppkaaDoor
