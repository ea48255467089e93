/- The specification's numbers out of texts: all texts. -/
import Derived.Test.YtcikohbcndppkaaDoorSn
namespace Go.Proofs.YtcikohbcndppkaaDoor
open Go.RowKit

def noNum : Value := .tuple #[.float .f32 0, .bool false]

set_option maxRecDepth 100000 in
theorem seen_empty (w : World) : Calls Tryd.prog 12 #[.string ⟨#[]⟩] w fun e w' => e = .returned noNum ∧ w = w' := by
  go_enter Tryd.func12, Tryd.ntmps12
  go_wp2
  go_ret2
  exact ⟨rfl, rfl⟩

set_option maxHeartbeats 1000000 in
set_option maxRecDepth 100000 in
theorem seen_long (s : ByteArray) (c0 : UInt8) (r : List UInt8) (hL : s.data.toList = c0 :: r) (h45 : c0.toNat ≠ 45) (hlen : 7 < r.length) (w : World) :
    Calls Tryd.prog 12 #[.string s] w fun e w' => e = .returned noNum ∧ w = w' := by
  obtain ⟨hsz, hpos, hemp⟩ := nonempty_of s c0 r hL
  have hs0 : s[0]'hpos = c0 := by have := Lib.getD_at s 0 hpos; rw [hL] at this; exact this
  have i45 : ((c0.toNat : Int) == 45) = false := by rw [beq_eq_false_iff_ne]; omega
  have z0 : ((s.size : Int) == 0) = false := by rw [beq_eq_false_iff_ne]; omega
  have z8 : decide ((8 : Int) < (s.size : Int)) = true := decide_eq_true (by omega)
  have hpos' : (0 : Int) < (s.size : Int) := by omega
  clear hL hsz hlen h45
  go_enter Tryd.func12, Tryd.ntmps12
  go_wp2_with fail
  go_ret2
  exact ⟨rfl, rfl⟩

set_option maxHeartbeats 1000000 in
set_option maxRecDepth 100000 in
theorem seen_zero (s : ByteArray) (r : List UInt8) (hL : s.data.toList = 48 :: r) (hr : r ≠ []) (hlen : r.length ≤ 7) (w : World) :
    Calls Tryd.prog 12 #[.string s] w fun e w' => e = .returned noNum ∧ w = w' := by
  obtain ⟨hsz, hpos, hemp⟩ := nonempty_of s 48 r hL
  have hs0 : s[0]'hpos = 48 := by have := Lib.getD_at s 0 hpos; rw [hL] at this; exact this
  have z0 : ((s.size : Int) == 0) = false := by rw [beq_eq_false_iff_ne]; omega
  have z8 : decide ((8 : Int) < (s.size : Int)) = false := decide_eq_false (by omega)
  have hpos' : (0 : Int) < (s.size : Int) := by omega
  have hz : (s.toList == [48]) = false := by
    rw [beq_eq_false_iff_ne, ByteArray.toList_eq, hL]
    intro h; injection h with _ h; exact hr h
  clear hL hsz hlen
  go_enter Tryd.func12, Tryd.ntmps12
  go_wp2_with fail
  go_ret2
  exact ⟨rfl, rfl⟩

set_option maxHeartbeats 1000000 in
set_option maxRecDepth 100000 in
theorem seen_sign (s : ByteArray) (r : List UInt8) (hL : s.data.toList = 45 :: r) (hr : r = [] ∨ 8 < r.length ∨ ∃ q, r = 48 :: q) (w : World) :
    Calls Tryd.prog 12 #[.string s] w fun e w' => e = .returned noNum ∧ w = w' := by
  obtain ⟨hsz, hpos, hemp⟩ := nonempty_of s 45 r hL
  have hs0 : s[0]'hpos = 45 := by have := Lib.getD_at s 0 hpos; rw [hL] at this; exact this
  obtain ⟨htl, hts, hsl0⟩ := tail_of s 45 r hL
  have hsl : ∀ W, (Instr.slice 9 (.string s) (some (.int .i64 1)) none none).run Tryd.prog W = .ok (.string (s.extract 1 s.size)) W := fun W => hsl0 Tryd.prog W 9 Tryd.underlying9
  generalize s.extract 1 s.size = t at hsl htl hts
  clear hsl0
  have hpos' : (0 : Int) < (s.size : Int) := by omega
  have hz : (s.toList == [48]) = false := by
    rw [beq_eq_false_iff_ne, ByteArray.toList_eq, hL]
    intro h; injection h with h _; revert h; decide
  by_cases h0 : r.length = 0
  · have z0 : ((t.size : Int) == 0) = true := by rw [beq_iff_eq]; omega
    clear hL hsz hr htl hts h0
    go_enter Tryd.func12, Tryd.ntmps12
    go_wp2_with fail
    go_ret2
    exact ⟨rfl, rfl⟩
  · have z0 : ((t.size : Int) == 0) = false := by rw [beq_eq_false_iff_ne]; omega
    by_cases h8 : 8 < r.length
    · have z8 : decide ((8 : Int) < (t.size : Int)) = true := decide_eq_true (by omega)
      clear hL hsz hr htl hts h0 h8
      go_enter Tryd.func12, Tryd.ntmps12
      go_wp2_with fail
      go_ret2
      exact ⟨rfl, rfl⟩
    · have z8 : decide ((8 : Int) < (t.size : Int)) = false := decide_eq_false (by omega)
      obtain ⟨q, rfl⟩ : ∃ q, r = 48 :: q := by
        rcases hr with h | h | h
        · exact absurd (by rw [h]; rfl) h0
        · exact absurd h h8
        · exact h
      have htp : 0 < t.size := by omega
      have ht0 : t[0]'htp = 48 := by have := Lib.getD_at t 0 htp; rw [htl] at this; exact this
      have hpos2 : (0 : Int) < (t.size : Int) := by omega
      clear hL hsz hr htl hts h0 h8
      go_enter Tryd.func12, Tryd.ntmps12
      go_wp2_with fail
      go_ret2
      exact ⟨rfl, rfl⟩

theorem max_txt (n : Nat) (h : n ≤ 2139095039) : (Hex.txt n).length ≤ 8 := by
  have h16 : (16 : Nat) ^ (7 + 1) = 4294967296 := by decide
  exact Hex.txt_len n 7 (by omega)

theorem seen_txt (neg : Bool) (n : Nat) (h : n ≤ 2139095039) : seenRes neg (Hex.txt n) = .tuple #[.float .f32 (wordAt (if neg then -(n : Int) else (n : Int))), .bool true] :=
  seen_ok neg _ n (Hex.all_txt n) (by rw [Hex.val_txt]) (by omega)

theorem seen_yes (s : ByteArray) (i : Int) (hr : InRange i) (hs : s.data.toList = Hex.itxt i) (w : World) :
    Calls Tryd.prog 12 #[.string s] w fun e w' => e = .returned (.tuple #[.float .f32 (wordAt i), .bool true]) ∧ w = w' := by
  obtain ⟨r1, r2⟩ := hr
  unfold Hex.itxt at hs
  split at hs
  · obtain ⟨c, r, hcr, hc⟩ := Hex.head_txt i.natAbs (by omega)
    have hlen := max_txt i.natAbs (by omega)
    rw [hcr] at hs hlen
    have h := seen_neg s c r hs (by simpa using hlen) hc w
    rw [← hcr, seen_txt true _ (by omega)] at h
    rw [show (if true = true then -((i.natAbs : Nat) : Int) else ((i.natAbs : Nat) : Int)) = i by rw [if_pos rfl]; omega] at h
    exact h
  · obtain ⟨c, r, hcr⟩ := List.exists_cons_of_ne_nil (Hex.txt_ne i.natAbs)
    have hlen := max_txt i.natAbs (by omega)
    have hx := Hex.hex_nat (Hex.txt_head_ne _ r c hcr)
    have h0 : c.toNat ≠ 48 ∨ r = [] := by
      by_cases hn : i.natAbs = 0
      · right
        rw [hn, Hex.txt_zero] at hcr
        injection hcr with _ h; exact h.symm
      · obtain ⟨c', r', hcr', hc'⟩ := Hex.head_txt i.natAbs hn
        rw [hcr] at hcr'
        injection hcr' with h _
        exact .inl (by rw [h]; exact hc')
    rw [hcr] at hs hlen
    have h := seen_pos s c r hs (by omega) (by simpa using hlen) h0 w
    rw [← hcr, seen_txt false _ (by omega)] at h
    rw [show (if false = true then -((i.natAbs : Nat) : Int) else ((i.natAbs : Nat) : Int)) = i by rw [if_neg (by decide)]; omega] at h
    exact h

theorem seenRes_no (neg : Bool) (D : List UInt8) (h : ¬ ((∀ c ∈ D, Hex.isHex c = true) ∧ Hex.val D ≤ 2139095039)) : seenRes neg D = noNum := by
  unfold seenRes
  rw [if_neg]
  · rfl
  · intro hb
    simp only [Bool.and_eq_true, decide_eq_true_eq] at hb
    exact h ⟨List.all_eq_true.1 hb.1, hb.2⟩

theorem seen_no (s : ByteArray) (hno : ∀ i : Int, InRange i → s.data.toList ≠ Hex.itxt i) (w : World) :
    Calls Tryd.prog 12 #[.string s] w fun e w' => e = .returned noNum ∧ w = w' := by
  cases hL : s.data.toList with
  | nil =>
    obtain rfl : s = ⟨#[]⟩ := by
      obtain ⟨⟨l⟩⟩ := s
      have : l = [] := hL
      rw [this]
    exact seen_empty w
  | cons c r =>
    rw [hL] at hno
    by_cases h45 : c.toNat = 45
    · obtain rfl : c = 45 := UInt8.toNat_inj.1 h45
      by_cases hr : r = [] ∨ 8 < r.length ∨ ∃ q, r = 48 :: q
      · exact seen_sign s r hL hr w
      · obtain ⟨d, q, rfl⟩ := List.exists_cons_of_ne_nil (fun h => hr (.inl h))
        have hd : d.toNat ≠ 48 := fun h => hr (.inr (.inr ⟨q, by rw [show d = 48 from UInt8.toNat_inj.1 h]⟩))
        have hlen : q.length ≤ 7 := by
          have : ¬ 8 < (d :: q).length := fun h => hr (.inr (.inl h))
          simpa using this
        have h := seen_neg s d q hL hlen hd w
        rw [seenRes_no true (d :: q)] at h
        · exact h
        · rintro ⟨hall, hval⟩
          have hg : Hex.txt (Hex.val (d :: q)) = d :: q := Hex.txt_val _ ⟨by simp, hall, .inr fun c' r' h' => by injection h' with a _; rw [← a]; exact hd⟩
          have hv := Hex.val_pos (d :: q) hall d q rfl hd
          refine hno (-(Hex.val (d :: q) : Int)) ⟨by omega, by omega⟩ ?_
          unfold Hex.itxt
          rw [if_pos (by omega), show (-(Hex.val (d :: q) : Int)).natAbs = Hex.val (d :: q) by omega, hg]
    · by_cases hlong : 7 < r.length
      · exact seen_long s c r hL h45 hlong w
      · by_cases hz : c.toNat = 48 ∧ r ≠ []
        · obtain ⟨h48, hr⟩ := hz
          obtain rfl : c = 48 := UInt8.toNat_inj.1 h48
          exact seen_zero s r hL hr (by omega) w
        · have h0 : c.toNat ≠ 48 ∨ r = [] := by
            by_cases h48 : c.toNat = 48
            · exact .inr (Classical.byContradiction fun h => hz ⟨h48, h⟩)
            · exact .inl h48
          have h := seen_pos s c r hL h45 (by omega) h0 w
          rw [seenRes_no false (c :: r)] at h
          · exact h
          · rintro ⟨hall, hval⟩
            have hg : Hex.txt (Hex.val (c :: r)) = c :: r := Hex.txt_val _ ⟨by simp, hall, by
              rcases h0 with h | h
              · exact .inr fun c' r' h' => by injection h' with a _; rw [← a]; exact h
              · by_cases h48 : c.toNat = 48
                · exact .inl (by rw [h, show c = 48 from UInt8.toNat_inj.1 h48])
                · exact .inr fun c' r' h' => by injection h' with a _; rw [← a]; exact h48⟩
            refine hno (Hex.val (c :: r) : Int) ⟨by omega, by omega⟩ ?_
            unfold Hex.itxt
            rw [if_neg (by omega), show ((Hex.val (c :: r) : Int)).natAbs = Hex.val (c :: r) by omega, hg]
end Go.Proofs.YtcikohbcndppkaaDoor
