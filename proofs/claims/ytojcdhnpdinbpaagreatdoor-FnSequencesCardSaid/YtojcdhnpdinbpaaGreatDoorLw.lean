/- The measure of the draw of a text. Walks: a text is drawn. -/
import Derived.Test.YtojcdhnpdinbpaaGreatDoorTs
import Derived.Test.YtojcdhnpdinbpaaGreatDoorLt
import Derived.Test.YtojcdhnpdinbpaaGreatDoorDz
namespace Go.Proofs.YtojcdhnpdinbpaaGreatDoor
open Go.RowKit
namespace Lc

/-- The number is no multiple of 3. -/
def Dn (y : Nat) : Prop := y / 8589934592 % 3 ≠ 0
instance (y : Nat) : Decidable (Dn y) := inferInstanceAs (Decidable (_ ≠ _))

def lp : Nat → Nat → Nat
  | 0, _ => 0
  | f + 1, y => if Dn y ∧ Dn (two y) then 0 else lp f (two y) + 1

theorem lp_spec (f : Nat) : ∀ y, (∃ m, m < f ∧ Dn (it m y) ∧ Dn (it (m + 1) y)) → lp f y < f ∧ Dn (it (lp f y) y) ∧ Dn (it (lp f y + 1) y) := by
  induction f with
  | zero => intro y ⟨m, hm, _⟩; omega
  | succ f ih =>
    intro y ⟨m, hm, h1, h2⟩
    by_cases hy : Dn y ∧ Dn (two y)
    · have e : lp (f + 1) y = 0 := by rw [lp, if_pos hy]
      rw [e, it_zero, Nat.zero_add, it_one]
      exact ⟨by omega, hy⟩
    · have e : lp (f + 1) y = lp f (two y) + 1 := by rw [lp, if_neg hy]
      cases m with
      | zero => rw [it_zero] at h1; rw [Nat.zero_add, it_one] at h2; exact absurd ⟨h1, h2⟩ hy
      | succ m =>
        have s : ∀ k, it (k + 1) y = it k (two y) := fun k => by rw [Nat.add_comm, it_add, it_one]
        rw [s] at h1 h2
        have hi := ih (two y) ⟨m, by omega, h1, h2⟩
        rw [e, s, s]
        exact ⟨by omega, hi.2⟩

theorem lp_le (f : Nat) : ∀ y m, m < f → Dn (it m y) → Dn (it (m + 1) y) → lp f y ≤ m := by
  induction f with
  | zero => intro y m hm; omega
  | succ f ih =>
    intro y m hm h1 h2
    by_cases hy : Dn y ∧ Dn (two y)
    · have e : lp (f + 1) y = 0 := by rw [lp, if_pos hy]
      omega
    · have e : lp (f + 1) y = lp f (two y) + 1 := by rw [lp, if_neg hy]
      cases m with
      | zero => rw [it_zero] at h1; rw [Nat.zero_add, it_one] at h2; exact absurd ⟨h1, h2⟩ hy
      | succ m =>
        have s : ∀ k, it (k + 1) y = it k (two y) := fun k => by rw [Nat.add_comm, it_add, it_one]
        rw [s] at h1 h2
        have := ih (two y) m (by omega) h1 h2
        omega

/-- How many double steps are left at most, behind the number y. -/
def mtF (F y : Nat) : Nat := if Dn y then 0 else lp F y

theorem mtF_facts (F : Nat) (hF : ∀ y, y < 18446744073709551616 → ∃ m, m < F ∧ Dn (it m y) ∧ Dn (it (m + 1) y)) (y : Nat) (hy : y < 18446744073709551616) :
    mtF F y < F ∧ (¬ Dn y → mtF F (two y) + 1 ≤ mtF F y ∧ 1 ≤ mtF F y ∧ (mtF F (two (two y)) + 2 ≤ mtF F y ∨ mtF F (two (two y)) = 0)) := by
  obtain ⟨h1, h2, h3⟩ := lp_spec F y (hF y hy)
  have s : ∀ k z, it (k + 1) z = it k (two z) := fun k z => by rw [Nat.add_comm, it_add, it_one]
  refine ⟨?_, fun hd => ?_⟩
  · unfold mtF; split <;> omega
  · have e : mtF F y = lp F y := by unfold mtF; rw [if_neg hd]
    rw [e]
    generalize hL : lp F y = L at *
    have hL1 : 1 ≤ L := by
      cases L with
      | zero => rw [it_zero] at h2; exact absurd h2 hd
      | succ L => omega
    refine ⟨?_, hL1, ?_⟩
    · unfold mtF
      split
      · omega
      · obtain ⟨k, rfl⟩ : ∃ k, L = k + 1 := ⟨L - 1, by omega⟩
        rw [s] at h2 h3
        have := lp_le F (two y) k (by omega) h2 h3
        omega
    · by_cases h4 : Dn (two (two y))
      · right; unfold mtF; rw [if_pos h4]
      · left
        have e2 : mtF F (two (two y)) = lp F (two (two y)) := by unfold mtF; rw [if_neg h4]
        rw [e2]
        obtain ⟨k, rfl⟩ : ∃ k, L = k + 1 := ⟨L - 1, by omega⟩
        cases k with
        | zero => rw [s, s, it_zero] at h3; exact absurd h3 h4
        | succ k =>
          rw [s, s] at h2
          rw [s, s] at h3
          have := lp_le F (two (two y)) k (by omega) h2 h3
          omega

/-- 7 times 2 to the 30. -/
def top : Nat := 7516192768
theorem top_eq : top = 7516192768 := by unfold top; exact Eq.refl _

def mt (y : Nat) : Nat := mtF top y

theorem mt_facts (y : Nat) (hy : y < 18446744073709551616) : mt y < 7516192768 ∧ (¬ Dn y → mt (two y) + 1 ≤ mt y ∧ 1 ≤ mt y ∧ (mt (two (two y)) + 2 ≤ mt y ∨ mt (two (two y)) = 0)) := by
  have h := mtF_facts top (fun y hy => by
    obtain ⟨m, hm, h1, h2⟩ := ends y hy
    exact ⟨m, by rw [top_eq]; exact hm, h1, h2⟩) y hy
  rw [top_eq] at h
  have e : top = 7516192768 := top_eq
  unfold mt
  rw [e]
  exact h
end Lc

/-- How many rounds are left at most where the source stands as it does. -/
def roundsLeft (len B : Nat) (w : World) : Nat :=
  match w.cell? ⟨B, 1, none⟩, w.cell? ⟨B, 2, none⟩ with
  | some (.int _ i), some (.int _ h) => if i.toNat < len then 7516192770 + (len - i.toNat) else Lc.mt (Lc.stp (h % 18446744073709551616).toNat)
  | _, _ => 0

theorem roundsLeft_at {W0 : World} {c : Value} {len B i s : Nat} {w : World} (h : SrcAt W0 c len B i s w) : roundsLeft len B w = if i < len then 7516192770 + (len - i) else Lc.mt (Lc.stp s) := by
  obtain ⟨g, h2, h3⟩ := h.at2
  unfold roundsLeft
  rw [h.at1, h2]
  show (if (i : Int).toNat < len then 7516192770 + (len - (i : Int).toNat) else Lc.mt (Lc.stp (g % 18446744073709551616).toNat)) = _
  rw [h3, Int.toNat_natCast]

/-- How long a text may be, by where the source stands. -/
def fits (len i s size : Nat) : Prop := (i < len → size + (len - i) ≤ 4500) ∧ (¬ i < len → 2 * size ≤ 7516203002 ∧ (1 ≤ Lc.mt (Lc.stp s) → 2 * size + Lc.mt (Lc.stp s) ≤ 7516203000))

theorem fits_new {len i s size : Nat} (hlen : len ≤ 4096) (hsz : size ≤ 400) : fits len i s size := by
  have := (Lc.mt_facts (Lc.stp s) (Lc.stp_lt s)).1
  exact ⟨fun h => by omega, fun h => ⟨by omega, fun _ => by omega⟩⟩

theorem fits_size {len i s size : Nat} (h : fits len i s size) : size ≤ 4294967000 := by
  by_cases hi : i < len
  · have := h.1 hi; omega
  · have := (h.2 hi).1; omega

/-- One round: the number for the decision was a multiple of 3 (or came with a byte of the code), then the text was damaged. -/
theorem fits_round {len i s size j j1 s' size' : Nat} (h : fits len i s size) (hs1 : i < len → j1 = i + 1) (hs2 : ¬ i < len → j1 = i ∧ ¬ Lc.Dn (Lc.stp s)) (hj1 : j1 < len → j1 < j) (hj2 : ¬ j1 < len → j = j1) (hjl : j ≤ len)
    (hs' : s' = if size = 0 then Lc.stp (Lc.stp s) else Lc.stp (Lc.stp (Lc.stp (Lc.stp s)))) (hz : size' ≤ size + 1) :
    fits len j s' size' ∧ (if j < len then 7516192770 + (len - j) else Lc.mt (Lc.stp s')) < if i < len then 7516192770 + (len - i) else Lc.mt (Lc.stp s) := by
  have hm := (Lc.mt_facts (Lc.stp s') (Lc.stp_lt s')).1
  by_cases hi : i < len
  · have a := hs1 hi
    have b := h.1 hi
    have hij : i < j := by
      by_cases hx : j1 < len
      · have := hj1 hx; omega
      · have := hj2 hx; omega
    refine ⟨⟨fun hj => by omega, fun hj => ⟨by omega, fun _ => by omega⟩⟩, ?_⟩
    rw [if_pos hi]
    split <;> omega
  · obtain ⟨a, d⟩ := hs2 hi
    subst a
    have a := hj2 hi
    subst a
    obtain ⟨b, b2⟩ := h.2 hi
    obtain ⟨_, f⟩ := Lc.mt_facts (Lc.stp s) (Lc.stp_lt s)
    obtain ⟨f1, f2, f3⟩ := f d
    have b3 := b2 f2
    rw [if_neg hi, if_neg hi]
    by_cases h0 : size = 0
    · rw [if_pos h0] at hs'
      have e : Lc.stp s' = Lc.two (Lc.stp s) := by rw [hs', Lc.two_eq]
      rw [e] at hm ⊢
      exact ⟨⟨fun hj => absurd hj hi, fun _ => ⟨by omega, fun _ => by rw [e]; omega⟩⟩, by omega⟩
    · rw [if_neg h0] at hs'
      have e : Lc.stp s' = Lc.two (Lc.two (Lc.stp s)) := by rw [hs', Lc.two_eq, Lc.two_eq]
      rw [e] at hm ⊢
      exact ⟨⟨fun hj => absurd hj hi, fun _ => ⟨by omega, fun g => by rw [e] at g ⊢; omega⟩⟩, by omega⟩
end Go.Proofs.YtojcdhnpdinbpaaGreatDoor

namespace Go.Proofs.YtojcdhnpdinbpaaGreatDoor
open Go.RowKit

theorem Src.below {W0 : World} {c : Value} {len B : Nat} {w w' : World} (h : Src W0 c len B w) (hb : Below w.heap.size w w') : Src W0 c len B w' := by
  obtain ⟨a, b, d, e, ⟨i, g, f1, f2, f3, f4⟩, f5, f6⟩ := h
  exact ⟨a.trans (hb.mono a.size), b, Nat.lt_of_lt_of_le d hb.size, by rw [hb.cell (p := ⟨B, 0, none⟩) d]; exact e, ⟨i, g, by rw [hb.cell (p := ⟨B, 1, none⟩) d]; exact f1, by rw [hb.cell (p := ⟨B, 2, none⟩) d]; exact f2, f3, f4⟩, by rw [hb.frozen (p := ⟨B, 1, none⟩) d]; exact f5, by rw [hb.frozen (p := ⟨B, 2, none⟩) d]; exact f6⟩

theorem seqB_list {L : List Pu} {m : Nat} (hm : L.length = m) (h : ∀ p ∈ L, okP p = true) (h60 : m ≤ 60) : seqB m (fun i => L.getD i noPu) = true := by
  rw [seqB_yes (fun i hi => ?_)]
  · simp [h60]
  · have : L.getD i noPu = L[i]'(by omega) := by rw [List.getD_eq_getElem?_getD, List.getElem?_eq_getElem (by omega)]; rfl
    rw [this]
    exact h _ (List.getElem_mem _)

theorem draw_eight (W0 : World) (c : Value) (len B : Nat) (hcode : Code W0 c len) (hlen : (len : Int) ≤ 4096) (w : World) (hs : Src W0 c len B w) :
    Calls Tryz.prog 41 #[.pointer (some ⟨B, 0, none⟩), .int .i64 8] w (DrawPost W0 c len B 8) := l05Draw_any W0 c len B 8 w hcode hlen hs (by decide)

def TextPost (W0 : World) (e : Ending) (w' : World) : Prop := ∃ t : ByteArray, e = .returned (.string t) ∧ t.size ≤ 4294967000 ∧ Below W0.heap.size W0 w'

set_option maxRecDepth 100000 in
set_option maxHeartbeats 1000000 in
theorem drawText_any (W0 : World) (c : Value) (len : Nat) (w : World) (hcode : Code W0 c len) (hlen : (len : Int) ≤ 4096) (hold : Below W0.heap.size W0 w) :
    Calls Tryz.prog 25 #[c] w (TextPost W0) := by
  have HF := Lib.hid (from_any W0 c len w.heap.size w hcode hlen rfl hold)
  obtain ⟨B, hB⟩ : ∃ B, B = w.heap.size := ⟨_, rfl⟩
  have HD := Lib.hid (draw_eight W0 c len B hcode hlen)
  have HN := Lib.hid (fun (i s : Nat) (n : Int) (w : World) (hs : SrcAt W0 c len B i s w) h1 h2 => next_at W0 c len B i s n w hcode hlen hs h1 h2)
  have HG := Lib.hid (fun (i s : Nat) (t : ByteArray) (w : World) (hs : SrcAt W0 c len B i s w) ht => damage_at W0 c len B i s t w hcode hlen hs ht)
  have HL := Lib.hid hlen
  rw [← hB] at HF
  clear hcode hold hlen hB
  go_enter Tryz.func25, Tryz.ntmps25
  go_wp2_with fail
  refine HF.out.mono ?_
  rintro e w1 ⟨rfl, hs1⟩
  have HS1 := Lib.hid hs1
  clear hs1
  go_wp2_with fail
  refine (HD.out _ HS1.out).mono ?_
  rintro e w2 ⟨v, L, rfl, hL, hown, hok, hnn, hs2⟩
  have HS2 := Lib.hid hs2
  have HO := Lib.hid (own_rd (owns_own hown rfl))
  have HQ := Lib.hid (seqB_list rfl hok (by omega))
  have HK := Lib.hid (fun i hi => (seqB_all HQ.out).1 i hi)
  clear hs2 hown hok hnn
  go_wp2_with fail
  refine (l05Text_ok HO.out HQ.out).mono ?_
  rintro e w3 ⟨⟨t, rfl, ht⟩, hb3⟩
  have hsz : t.size ≤ 400 := by
    have := tx_len L.length HK.out
    rw [Lib.size_eq, ht]
    omega
  have HS3 := Lib.hid (HS2.out.below hb3)
  have HZ := Lib.hid hsz
  clear ht hb3 hsz
  go_wp2_with fail
  go_loopw [4] (fun u wr => ∃ (t : ByteArray) (i s : Nat), u = .string t ∧ SrcAt W0 c len B i s wr ∧ fits len i s t.size) (fun _ wr => roundsLeft len B wr)
  case atStart =>
    obtain ⟨i, s, h⟩ := HS3.out.tracked
    exact ⟨t, i, s, rfl, h, fits_new (by have := HL.out; omega) HZ.out⟩
  case round =>
    obtain ⟨t, i, s, rfl, hs, hf⟩ := hrel
    have HS := Lib.hid hs
    have HFi := Lib.hid hf
    clear hs hf HS1 HS2 HS3 HO HQ HK HZ
    go_wp2_with fail
    refine (HN.out _ _ _ _ HS.out (by omega) (by omega)).mono ?_
    rintro e w4 ⟨x, j1, rfl, x0, x1, hs4, ho4, p1, q1⟩
    by_cases hx : x = 0
    · have HS4 := Lib.hid hs4
      have HP := Lib.hid p1
      have HQ := Lib.hid (show ¬ i < len → j1 = i ∧ ¬ Lc.Dn (Lc.stp s) from fun h => ⟨(q1 h).1, fun hd => hd (by have := (q1 h).2; omega)⟩)
      have hz : t.size < 4611686018427387904 := by have := fits_size HFi.out; omega
      have HZ := Lib.hid hz
      clear hs4 ho4 p1 q1 hz
      subst hx
      go_wp2_with fail
      refine (HG.out _ _ _ _ HS4.out HZ.out).mono ?_
      rintro e w5 ⟨t', j, rfl, hsz, hs5, hj1, hj2⟩
      have hr := fits_round HFi.out HP.out HQ.out hj1 hj2 hs5.most rfl hsz
      have HR := Lib.hid hr.1
      have HM := Lib.hid hr.2
      have hs5' : SrcAt W0 c len B j (if t.size = 0 then Lc.stp (Lc.stp s) else Lc.stp (Lc.stp (Lc.stp (Lc.stp s)))) w5 := hs5
      have HS5 := Lib.hid hs5'
      clear hr hs5 hs5' hsz hj1 hj2
      go_wp2_with fail
      go_roundw
      case rel => exact ⟨t', j, _, rfl, HS5.out, HR.out⟩
      case measure =>
        rw [roundsLeft_at HS5.out, roundsLeft_at HS.out]
        exact HM.out
    · have HS4 := Lib.hid hs4
      clear hs4 ho4 p1 q1
      go_wp2_with fail
      go_ret
      exact ⟨t, rfl, fits_size HFi.out, HS4.out.src.old⟩
end Go.Proofs.YtojcdhnpdinbpaaGreatDoor
