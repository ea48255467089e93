/- strconv.ParseInt at base 16 and 64 bits. -/
import Derived.Test.YtcikohbcndppkaaDoorPI
namespace Go.Proofs.YtcikohbcndppkaaDoor
open Go.RowKit

/-- Of whatever text: a number that fits, and an error or none. -/
def POut (e : Ending) : Prop := ∃ (x : Int) (v : Value), e = .returned (.tuple #[.int .i64 x, v]) ∧ -9223372036854775808 ≤ x ∧ x ≤ 9223372036854775807 ∧ (v = .nilIface ∨ ∃ te pe, v = .iface te pe)

/-- What the library's two error variables hold. -/
def ErrVars (w : World) : Prop := ∃ (e2 e3 : Value), w.cell? ⟨2, 0, none⟩ = some e2 ∧ w.cell? ⟨3, 0, none⟩ = some e3 ∧ (e2 = .nilIface ∨ ∃ te pe, e2 = .iface te pe) ∧ (e3 = .nilIface ∨ ∃ te pe, e3 = .iface te pe)

theorem ErrVars.below {w w' : World} (h : ErrVars w) (hb : Below w.heap.size w w') : ErrVars w' := by
  obtain ⟨e2, e3, h2, h3, k2, k3⟩ := h
  have b2 := World.block_lt_of_cell? w ⟨2, 0, none⟩ h2
  have b3 := World.block_lt_of_cell? w ⟨3, 0, none⟩ h3
  exact ⟨e2, e3, by rw [hb.cell (p := ⟨2, 0, none⟩) b2]; exact h2, by rw [hb.cell (p := ⟨3, 0, none⟩) b3]; exact h3, k2, k3⟩

theorem int_all (s : ByteArray) (hmax : s.size ≤ 9223372036854775806) (w : World) :
    Calls Tryd.prog 19 #[.string s, .int .i64 16, .int .i64 64] w fun e w' => IOut e ∧ Below w.heap.size w w' := by
  cases hL : s.data.toList with
  | nil =>
    obtain rfl : s = ⟨#[]⟩ := by
      obtain ⟨⟨l⟩⟩ := s
      have : l = [] := hL
      rw [this]
    exact (Tryd.internal_strconv_ParseInt_empty 16 64 w).mono fun e w' ⟨he, hw⟩ => ⟨⟨0, _, he, by omega, by omega, .inr (.inr rfl)⟩, by rw [hw]; exact Below.refl _ _⟩
  | cons c r =>
    by_cases h43 : c.toNat = 43
    · obtain rfl : c = 43 := UInt8.toNat_inj.1 h43
      exact int_any_plus s r hL hmax w
    · by_cases h45 : c.toNat = 45
      · obtain rfl : c = 45 := UInt8.toNat_inj.1 h45
        exact int_any_minus s r hL hmax w
      · exact int_any_none s c r hL h43 h45 hmax w

theorem int_good (s : ByteArray) (i : Int) (h0 : -9223372036854775808 ≤ i) (h1 : i ≤ 9223372036854775807) (hs : s.data.toList = Hex.itxt i) (hmax : s.size ≤ 9223372036854775806) (w : World) :
    Calls Tryd.prog 19 #[.string s, .int .i64 16, .int .i64 64] w fun e w' => e = .returned (.tuple #[.int .i64 i, .nilIface]) ∧ Below w.heap.size w w' := by
  unfold Hex.itxt at hs
  split at hs
  · have := int_good_neg s i.natAbs (by omega) hs hmax w
    rw [show -((i.natAbs : Nat) : Int) = i by omega] at this
    exact this
  · have := int_good_pos s i.natAbs (by omega) hs hmax w
    rw [show ((i.natAbs : Nat) : Int) = i by omega] at this
    exact this

theorem pub_good (s : ByteArray) (i : Int) (h0 : -9223372036854775808 ≤ i) (h1 : i ≤ 9223372036854775807) (hs : s.data.toList = Hex.itxt i) (hmax : s.size ≤ 9223372036854775806) (w : World) :
    Calls Tryd.prog 14 #[.string s, .int .i64 16, .int .i64 64] w fun e w' => e = .returned (.tuple #[.int .i64 i, .nilIface]) ∧ Below w.heap.size w w' := by
  have HI := Lib.hid (fun w => int_good s i h0 h1 hs hmax w)
  clear hs h0 h1 hmax
  go_enter Tryd.func14, Tryd.ntmps14
  go_wp2_with fail
  refine (HI.out _).mono ?_
  rintro e w1 ⟨rfl, hb⟩
  go_wp2_with fail
  go_ret2
  exact ⟨rfl, hb⟩

theorem toErr_any (s : ByteArray) (q : Int) (w : World) (hq : q = 1 ∨ q = 2) (hmax : s.size ≤ 281474976710656) (hv : ErrVars w) :
    Calls Tryd.prog 20 #[.string ⟨#[80, 97, 114, 115, 101, 73, 110, 116]⟩, .string s, .int .i64 16, .int .i64 64, .iface 57 (.int .i64 q)] w fun e w' => (∃ te pe, e = .returned (.iface te pe)) ∧ Below w.heap.size w w' := by
  obtain ⟨e2, e3, h2, h3, k2, k3⟩ := hv
  rcases hq with rfl | rfl
  · exact (Tryd.strconv_toError_range _ s 16 64 e3 w hmax h3 k3).mono fun e w' ⟨N, he, _, _, hb⟩ => ⟨⟨_, _, he⟩, hb⟩
  · exact (Tryd.strconv_toError_syntax _ s 16 64 e2 w hmax h2 k2).mono fun e w' ⟨N, he, _, _, hb⟩ => ⟨⟨_, _, he⟩, hb⟩

theorem pub_any (s : ByteArray) (hmax : s.size ≤ 281474976710656) (w : World) (hv : ErrVars w) :
    Calls Tryd.prog 14 #[.string s, .int .i64 16, .int .i64 64] w fun e w' => POut e ∧ Below w.heap.size w w' := by
  have HI := Lib.hid (fun w => int_all s (by omega) w)
  have HV := Lib.hid hv
  have HM := Lib.hid hmax
  clear hv hmax
  go_enter Tryd.func14, Tryd.ntmps14
  go_wp2_with fail
  refine (HI.out _).mono ?_
  rintro e w1 ⟨⟨x, v, rfl, x0, x1, hk⟩, hb⟩
  have HB := Lib.hid hb
  clear hb
  rcases hk with rfl | rfl | rfl
  · go_wp2_with fail
    go_ret2
    exact ⟨⟨_, _, rfl, x0, x1, .inl rfl⟩, HB.out⟩
  · go_wp2_with fail
    refine (toErr_any s 1 _ (.inl rfl) HM.out (HV.out.below HB.out)).mono ?_
    rintro e w2 ⟨⟨te, pe, rfl⟩, hb2⟩
    go_wp2_with fail
    go_ret2
    exact ⟨⟨_, _, rfl, x0, x1, .inr ⟨te, pe, rfl⟩⟩, HB.out.trans (hb2.mono HB.out.size)⟩
  · go_wp2_with fail
    refine (toErr_any s 2 _ (.inr rfl) HM.out (HV.out.below HB.out)).mono ?_
    rintro e w2 ⟨⟨te, pe, rfl⟩, hb2⟩
    go_wp2_with fail
    go_ret2
    exact ⟨⟨_, _, rfl, x0, x1, .inr ⟨te, pe, rfl⟩⟩, HB.out.trans (hb2.mono HB.out.size)⟩
end Go.Proofs.YtcikohbcndppkaaDoor
