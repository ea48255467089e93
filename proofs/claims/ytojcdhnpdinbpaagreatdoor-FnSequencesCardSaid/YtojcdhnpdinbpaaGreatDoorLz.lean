/- The law of sequences. -/
import Derived.Test.YtojcdhnpdinbpaaGreatDoorLx
import Derived.Test.YtojcdhnpdinbpaaGreatDoorLy
import Derived.Test.YtojcdhnpdinbpaaGreatDoorTu
import Derived.Test.YtojcdhnpdinbpaaGreatDoorRv
import Derived.Test.YtojcdhnpdinbpaaGreatDoorSt2
import Derived.Test.YtojcdhnpdinbpaaGreatDoorAi
import Derived.Test.YtojcdhnpdinbpaaGreatDoorCp
import Derived.Test.YtojcdhnpdinbpaaGreatDoorIs
import Derived.Test.YtojcdhnpdinbpaaGreatDoorEi
import Derived.Deep.DeepCutAuto
namespace Go.Proofs.YtojcdhnpdinbpaaGreatDoor
open Go.RowKit

/-- What the program reads off the text of a sequence. -/
theorem read_tx {m : Nat} {P : Nat → Pu} (hs : seqB m P = true) (w : World) (hV : Vars w) :
    Calls Tryz.prog 10 #[.string ⟨(tx P m).toArray⟩] w fun e w' => ∃ u, e = .returned (.tuple #[u, .int .i64 0]) ∧ Below w.heap.size w w' ∧ Own w' u m P w.heap.size w'.heap.size := by
  obtain ⟨h1, h2, h3⟩ := text_back hs
  obtain ⟨hok, h60⟩ := seqB_all hs
  have hsz : (⟨(tx P m).toArray⟩ : ByteArray).size ≤ 4294967000 := by
    have := tx_len m hok
    rw [Lib.size_eq]
    show (tx P m).length ≤ _
    omega
  refine (implRead ⟨(tx P m).toArray⟩ hsz w hV).mono ?_
  rintro e w' ⟨u, rfl, hb, ho⟩
  have e1 : (⟨(tx P m).toArray⟩ : ByteArray).data.toList = tx P m := rfl
  rw [e1, h1]
  rw [e1, h2] at ho
  exact ⟨u, rfl, hb, own_congr ho h3⟩

/-- The inverse of a sequence, and its inverse. -/
def IsInv (m : Nat) (P : Nat → Pu) : Prop := (∀ (w : World) (b off cap : Nat), Rd w (.slice (some ⟨b, off, none⟩) m cap) m P → Calls Tryz.prog 11 #[.slice (some ⟨b, off, none⟩) m cap] w fun e w' => ∃ b' cap', e = .returned (.tuple #[.slice (some ⟨b', 0, none⟩) m cap', .int .i64 0]) ∧ m ≤ cap' ∧ Below w.heap.size w w' ∧ Rd w' (.slice (some ⟨b', 0, none⟩) m cap') m (fun i => inv (P (m - 1 - i)))) ∧
  ∀ (w : World) (b off cap : Nat), Rd w (.slice (some ⟨b, off, none⟩) m cap) m (fun i => inv (P (m - 1 - i))) → Calls Tryz.prog 11 #[.slice (some ⟨b, off, none⟩) m cap] w fun e w' => ∃ b' cap', e = .returned (.tuple #[.slice (some ⟨b', 0, none⟩) m cap', .int .i64 0]) ∧ m ≤ cap' ∧ Below w.heap.size w w' ∧ Rd w' (.slice (some ⟨b', 0, none⟩) m cap') m P

theorem rd_congr {w : World} {v : Value} {n : Nat} {P Q : Nat → Pu} (h : Rd w v n P) (e : ∀ i, i < n → P i = Q i) : Rd w v n Q := by
  obtain ⟨a, cap, rfl, h⟩ := h
  refine ⟨a, cap, rfl, fun h0 => ?_⟩
  obtain ⟨b, off, rfl, hl, hc⟩ := h h0
  exact ⟨b, off, rfl, hl, fun i hi => by rw [← e i hi]; exact hc i hi⟩

theorem inv_tx {m : Nat} {P : Nat → Pu} (hs : seqB m P = true) : IsInv m P := by
  obtain ⟨hok, h60⟩ := seqB_all hs
  refine ⟨fun w b off cap h => ?_, fun w b off cap h => ?_⟩
  · refine (implInv_full (by omega) hs w b off cap h).mono ?_
    rintro e w' ⟨u, rfl, hb, ho, b', cap', rfl, hc⟩
    exact ⟨b', cap', rfl, hc, hb, own_rd ho⟩
  · refine (implInv_full (by omega) (seqB_inv hs) w b off cap h).mono ?_
    rintro e w' ⟨u, rfl, hb, ho, b', cap', rfl, hc⟩
    exact ⟨b', cap', rfl, hc, hb, rd_congr (own_rd ho) (fun i hi => inv_twice P hi)⟩

/-- Three numbers in a block of their own. -/
structure Ints3 (w : World) (B : Nat) (F : Int → Int) : Prop where
  lt : B < w.heap.size
  c0 : w.cell? ⟨B, 0, none⟩ = some (.int .i64 (F 0))
  c1 : w.cell? ⟨B, 1, none⟩ = some (.int .i64 (F 1))
  c2 : w.cell? ⟨B, 2, none⟩ = some (.int .i64 (F 2))

theorem Ints3.below {w w' : World} {B : Nat} {F : Int → Int} (h : Ints3 w B F) (hb : Below w.heap.size w w') : Ints3 w' B F :=
  ⟨Nat.lt_of_lt_of_le h.lt hb.size, (hb.cell (p := ⟨B, 0, none⟩) h.lt).trans h.c0, (hb.cell (p := ⟨B, 1, none⟩) h.lt).trans h.c1, (hb.cell (p := ⟨B, 2, none⟩) h.lt).trans h.c2⟩

theorem Ints3.rd {w : World} {B cap : Nat} {F : Int → Int} (h : Ints3 w B F) : RdI w (.slice (some ⟨B, 0, none⟩) 3 cap) 3 (fun i => F i) := by
  refine ⟨_, cap, rfl, fun _ => ⟨B, 0, rfl, h.lt, fun i hi => ?_⟩⟩
  have hi : i = 0 ∨ i = 1 ∨ i = 2 := by omega
  rcases hi with rfl | rfl | rfl
  · exact h.c0
  · exact h.c1
  · exact h.c2

/-- The angles of a sequence. -/
def IsAng (m : Nat) (P : Nat → Pu) : Prop := ∀ (w : World) (b off cap : Nat), m ≤ cap → Rd w (.slice (some ⟨b, off, none⟩) m cap) m P → Calls Tryz.prog 13 #[.slice (some ⟨b, off, none⟩) m cap] w fun e w' => ∃ B c', e = .returned (.tuple #[.slice (some ⟨B, 0, none⟩) 3 c', .int .i64 0]) ∧ Below w.heap.size w w' ∧ Ints3 w' B (fun ax => ang P ax m)

theorem ang_tx {m : Nat} {P : Nat → Pu} (hs : seqB m P = true) : IsAng m P := by
  obtain ⟨hok, h60⟩ := seqB_all hs
  intro w b off cap hc h
  refine (implAngles_yes h60 hs w b off cap hc h).mono ?_
  rintro e w' ⟨u, rfl, hb, ho⟩
  obtain ⟨a, c', rfl, hx⟩ := ownv_rd ho
  obtain ⟨B, rfl, hl, hcell⟩ := hx (by omega)
  exact ⟨B, c', rfl, hb, hl, hcell 0 (by omega), hcell 1 (by omega), hcell 2 (by omega)⟩

/-- A sequence that is shortened. -/
def IsShort (m : Nat) (P : Nat → Pu) (n : Nat) (Q : Nat → Pu) : Prop := ∀ (w : World) (b off cap : Nat), m ≤ cap → Rd w (.slice (some ⟨b, off, none⟩) m cap) m P → Calls Tryz.prog 14 #[.slice (some ⟨b, off, none⟩) m cap] w fun e w' => ∃ b' cap', e = .returned (.tuple #[.slice (some ⟨b', 0, none⟩) n cap', .int .i64 0]) ∧ n ≤ cap' ∧ Below w.heap.size w w' ∧ Rd w' (.slice (some ⟨b', 0, none⟩) n cap') n Q

theorem short_one {m : Nat} {P : Nat → Pu} (hs : seqB m P = true) : IsShort m P (short ((List.range m).map P)).length (fun i => (short ((List.range m).map P)).getD i noPu) := by
  obtain ⟨hok, h60⟩ := seqB_all hs
  intro w b off cap hc h
  refine (implShort_full h60 hs w b off cap hc h).mono ?_
  rintro e w' ⟨u, rfl, hb, ho, b', cap', rfl, hc'⟩
  exact ⟨b', cap', rfl, hc', hb, own_rd ho⟩

theorem short_tx {m : Nat} {P : Nat → Pu} (hs : seqB m P = true) : ∃ (n : Nat) (Q : Nat → Pu), n ≤ m ∧ IsShort m P n Q ∧ IsShort n Q n Q ∧ IsAng n Q ∧ ∀ ax, ang Q ax n = ang P ax m := by
  obtain ⟨h1, h2, h3, h4⟩ := short_facts hs
  have h5 := short_one h2
  rw [h4] at h5
  exact ⟨_, _, h1, short_one hs, h5, ang_tx h2, h3⟩

theorem ownv_ints {T : TypeId} {w : World} {v : Value} {m lo hi : Nat} {F : Nat → Int} (h : OwnV T w v m (fun i => .int .i64 (F i)) lo hi) : RdI w v m F := by
  have hr := ownv_rd h
  clear h
  obtain ⟨a, cap, rfl, hx⟩ := hr
  refine ⟨a, cap, rfl, fun h0 => ?_⟩
  obtain ⟨B, rfl, hl, hc⟩ := hx h0
  exact ⟨B, 0, rfl, hl, fun i hi => by rw [Nat.zero_add]; exact hc i hi⟩

/-- What a function from lists to lists and codes hands back. -/
def Hands (f : FuncId) (n : Nat) (P : Nat → Pu) (k : Nat) (Q : Nat → Pu) (q : Int) : Prop :=
  ∀ (w : World) (b off cap : Nat), n ≤ cap → Rd w (.slice (some ⟨b, off, none⟩) n cap) n P → Calls Tryz.prog f #[.slice (some ⟨b, off, none⟩) n cap] w fun e w' => ∃ u, e = .returned (.tuple #[u, .int .i64 q]) ∧ Below w.heap.size w w' ∧ Rd w' u k Q
def HandsI (f : FuncId) (n : Nat) (P : Nat → Pu) (k : Nat) (F : Nat → Int) (q : Int) : Prop :=
  ∀ (w : World) (b off cap : Nat), n ≤ cap → Rd w (.slice (some ⟨b, off, none⟩) n cap) n P → Calls Tryz.prog f #[.slice (some ⟨b, off, none⟩) n cap] w fun e w' => ∃ u, e = .returned (.tuple #[u, .int .i64 q]) ∧ Below w.heap.size w w' ∧ RdI w' u k F

theorem Gives.hands {f : FuncId} {n : Nat} {P : Nat → Pu} {k : Nat} {Q : Nat → Pu} {q : Int} (h : Gives f n P k Q q) : Hands f n P k Q q := fun w b off cap _ hR => by
  refine (h w b off cap hR).mono ?_
  rintro e w' ⟨u, rfl, hb, ho⟩
  exact ⟨u, rfl, hb, own_rd ho⟩
theorem GivesC.hands {f : FuncId} {n : Nat} {P : Nat → Pu} {k : Nat} {Q : Nat → Pu} {q : Int} (h : GivesC f n P k Q q) : Hands f n P k Q q := fun w b off cap hc hR => by
  refine (h w b off cap hc hR).mono ?_
  rintro e w' ⟨u, rfl, hb, ho⟩
  exact ⟨u, rfl, hb, own_rd ho⟩
theorem GivesV.hands {f : FuncId} {n : Nat} {P : Nat → Pu} {k : Nat} {F : Nat → Int} {q : Int} (h : GivesV 2 f n P k (fun i => .int .i64 (F i)) q) : HandsI f n P k F q := fun w b off cap hc hR => by
  refine (h w b off cap hc hR).mono ?_
  rintro e w' ⟨u, rfl, hb, ho⟩
  exact ⟨u, rfl, hb, ownv_ints ho⟩

theorem pair_short (n : Nat) (P : Nat → Pu) (hn : n ≤ 61) : ∃ k Q q, k ≤ 1000 ∧ Hands 14 n P k Q q ∧ Hands 17 n P k Q q := by
  refine ⟨_, _, _, ?_, (implShort (by omega)).hands, (specShort (by omega)).hands⟩
  have := short_length ((List.range n).map P)
  rw [List.length_map, List.length_range] at this
  split <;> omega
theorem pair_echo (n : Nat) (P : Nat → Pu) (hn : n ≤ 61) : ∃ k Q q, k ≤ 1000 ∧ Hands 19 n P k Q q ∧ Hands 20 n P k Q q := by
  refine ⟨_, _, _, ?_, (implEcho (by omega)).hands, (specEcho (by omega)).hands⟩
  split <;> omega
theorem pair_inv (n : Nat) (P : Nat → Pu) (hn : n ≤ 61) : ∃ k Q q, k ≤ 1000 ∧ Hands 11 n P k Q q ∧ Hands 22 n P k Q q := by
  refine ⟨_, _, _, ?_, (implInv (by omega)).hands, (specInv (by omega)).hands⟩
  split <;> omega
theorem pair_ang (n : Nat) (P : Nat → Pu) (hn : n ≤ 61) : ∃ k F q, k ≤ 1000 ∧ HandsI 13 n P k F q ∧ HandsI 24 n P k F q := by
  refine ⟨_, _, _, ?_, (implAngles (by omega)).hands, (specAngles (by omega)).hands⟩
  split <;> omega
theorem pair_read (t : ByteArray) (ht : t.size ≤ 4294967000) : ∃ k Q q, k ≤ 1000 ∧
    (∀ w, Vars w → Calls Tryz.prog 10 #[.string t] w fun e w' => ∃ u, e = .returned (.tuple #[u, .int .i64 q]) ∧ Below w.heap.size w w' ∧ Rd w' u k Q) ∧
    (∀ w, Calls Tryz.prog 26 #[.string t] w fun e w' => ∃ u, e = .returned (.tuple #[u, .int .i64 q]) ∧ Below w.heap.size w w' ∧ Rd w' u k Q) := by
  refine ⟨nRead t.data.toList, PW t.data.toList, cRead t.data.toList, by have := nRead_small t.data.toList; omega, fun w hV => ?_, fun w => ?_⟩
  · refine (implRead t ht w hV).mono ?_
    rintro e w' ⟨u, rfl, hb, ho⟩
    exact ⟨u, rfl, hb, own_rd ho⟩
  · refine (specRead t ht w).mono ?_
    rintro e w' ⟨u, rfl, hb, ho⟩
    exact ⟨u, rfl, hb, own_rd ho⟩

set_option maxRecDepth 100000 in
set_option maxHeartbeats 8000000 in
theorem law_seq (c : Value) (len : Nat) (W : World) (hcode : Code W c len) (hV : Vars W) :
    Calls Tryz.prog 3 #[c] W fun e w' => e = .returned (.bool true) ∧ Below W.heap.size W w' := by
  have HB := Lib.hid (big_any W c len hcode)
  by_cases hbig : (4096 : Int) < (len : Int)
  · have hd2 : decide ((4096 : Int) < (len : Int)) = true := decide_eq_true hbig
    rw [hd2] at HB
    obtain ⟨a, cap, rfl, _⟩ := hcode
    go_enter Tryz.func3, Tryz.ntmps3
    go_wp2_with fail
    refine HB.out.mono ?_
    rintro e w1 ⟨rfl, rfl⟩
    go_wp2_with fail
    go_ret
    exact ⟨rfl, Below.refl _ _⟩
  have hlen : (len : Int) ≤ 4096 := by omega
  have hd2 : decide ((4096 : Int) < (len : Int)) = false := decide_eq_false (by omega)
  rw [hd2] at HB
  have HD1 := Lib.hid (fun (w : World) (hb : Below W.heap.size W w) => drawSequenceText_any w c len (hcode.below hb) hlen)
  have HD2 := Lib.hid (fun (w : World) (hb : Below W.heap.size W w) => drawShortenSequence_any w c len (hcode.below hb) hlen)
  have HD3 := Lib.hid (fun (w : World) (hb : Below W.heap.size W w) => drawEchoOf_any w c len (hcode.below hb) hlen)
  have HD4 := Lib.hid (fun (w : World) (hb : Below W.heap.size W w) => drawInverseSequence_any w c len (hcode.below hb) hlen)
  have HD5 := Lib.hid (fun (w : World) (hb : Below W.heap.size W w) => drawAnglesOf_any w c len (hcode.below hb) hlen)
  have HD6 := Lib.hid (fun (w : World) (hb : Below W.heap.size W w) => drawText_any w c len w (hcode.below hb) hlen (Below.refl _ _))
  have HV := Lib.hid (fun (w : World) (hb : Below W.heap.size W w) => hV.below hb)
  obtain ⟨a, cap, rfl, _⟩ := hcode
  clear hd2 hbig hlen hV
  go_enter Tryz.func3, Tryz.ntmps3
  go_wp2_with fail
  refine HB.out.mono ?_
  rintro e w1 ⟨rfl, rfl⟩
  go_wp2_with fail
  refine (HD1.out _ (Below.refl _ _)).mono ?_
  rintro e w2 ⟨g, m, kc, P, rfl, hm, hkc, hR, hb⟩
  have R2 := Lib.hid hR
  have B2 := Lib.hid hb
  clear hR hb
  go_wp2_with fail
  obtain ⟨q, hq⟩ : ∃ q : Int, q = if seqB m P then 0 else 1 := ⟨_, rfl⟩
  obtain ⟨T, hT⟩ : ∃ T : ByteArray, T = if seqB m P then ⟨(tx P m).toArray⟩ else ⟨#[]⟩ := ⟨_, rfl⟩
  have I1 := Lib.hid (show GivesT 6 m P T q by rw [hq, hT]; exact implText (by omega))
  have S1 := Lib.hid (show GivesT 7 m P T q by rw [hq, hT]; exact specText (by omega))
  have HQ := Lib.hid hq
  have HT := Lib.hid hT
  clear hq hT
  refine (I1.out _ _ _ _ hkc R2.out).mono ?_
  rintro e w3 ⟨rfl, hb⟩
  have R3 := Lib.hid (rd_below R2.out hb)
  have B3 := Lib.hid (B2.out.trans (hb.mono B2.out.size))
  clear hb
  go_wp2_with fail
  refine (S1.out _ _ _ _ hkc R3.out).mono ?_
  rintro e w4 ⟨rfl, hb⟩
  have R4 := Lib.hid (rd_below R3.out hb)
  have B4 := Lib.hid (B3.out.trans (hb.mono B3.out.size))
  clear hb
  go_wp2_with fail
  refine (implIs_ok R4.out (by omega)).mono ?_
  rintro e w5 ⟨rfl, hb⟩
  have R5 := Lib.hid (rd_below R4.out hb)
  have B5 := Lib.hid (B4.out.trans (hb.mono B4.out.size))
  clear hb
  go_wp2_with fail
  refine (specIs_ok R5.out (by omega)).mono ?_
  rintro e w6 ⟨rfl, rfl⟩
  go_upto_if 80 with (fail)
  go_cut [8, 9, 10, 11, 12, 13, 14, 15, 16, 17, 18, 19, 20, 21, 22, 23, 24] (fun _ _ _ _ _ _ _ _ _ _ _ _ _ _ _ _ _ wc => Below W.heap.size W wc)
  case first => as_aux_lemma =>
    clear HD2 HD3 HD4 HD5 HD6 I1 S1
    cases hs : seqB m P
    · have hq : q = 1 := by rw [HQ.out, hs]; rfl
      subst hq
      clear hs
      go_wp2_with fail
      go_meet
      exact B5.out
    · have hq : q = 0 := by rw [HQ.out, hs]; rfl
      have hT : T = ⟨(tx P m).toArray⟩ := by rw [HT.out, hs]; rfl
      subst hq hT
      have HP := Lib.hid (read_tx hs)
      have HI := Lib.hid (inv_tx hs)
      have HA := Lib.hid (ang_tx hs)
      have HN := Lib.hid (ang_tx (seqB_inv hs))
      obtain ⟨n, Q, hn, hs1, hs2, hs3, hs4⟩ := short_tx hs
      have HS := Lib.hid hs1
      have HT2 := Lib.hid hs2
      have HM := Lib.hid hs3
      have HE := Lib.hid hs4
      have HNeg := Lib.hid (fun ax => ang_inv P ax m)
      have HBd := Lib.hid (fun ax => ang_bd P ax m)
      clear hs1 hs2 hs3 hs4
      obtain ⟨_, h60⟩ := seqB_all hs
      go_wp2_with fail
      refine (HP.out _ (HV.out _ B5.out)).mono ?_
      rintro e w6 ⟨u6, rfl, hb, ho⟩
      have R6 := Lib.hid (rd_below R5.out hb)
      have O6 := Lib.hid (own_rd ho)
      have B6 := Lib.hid (B5.out.trans (hb.mono B5.out.size))
      clear hb ho
      go_wp2_with fail
      refine (HI.out.1 _ _ _ _ R6.out).mono ?_
      rintro e w7 ⟨b7, c7, rfl, k7, hb, ho⟩
      have R7 := Lib.hid (rd_below R6.out hb)
      have O7 := Lib.hid (rd_below O6.out hb)
      have V7 := Lib.hid ho
      have B7 := Lib.hid (B6.out.trans (hb.mono B6.out.size))
      clear hb ho R6 O6
      go_wp2_with fail
      refine (HI.out.2 _ _ _ _ V7.out).mono ?_
      rintro e w8 ⟨b8, c8, rfl, k8, hb, ho⟩
      have R8 := Lib.hid (rd_below R7.out hb)
      have O8 := Lib.hid (rd_below O7.out hb)
      have V8 := Lib.hid (rd_below V7.out hb)
      have A8 := Lib.hid ho
      have B8 := Lib.hid (B7.out.trans (hb.mono B7.out.size))
      clear hb ho R7 O7 V7
      go_wp2_with fail
      refine (pulses5_ok O8.out R8.out (fun _ _ => rfl) (by omega)).mono ?_
      rintro e w9 ⟨rfl, hb⟩
      have R9 := Lib.hid (rd_below R8.out hb)
      have V9 := Lib.hid (rd_below V8.out hb)
      have A9 := Lib.hid (rd_below A8.out hb)
      have B9 := Lib.hid (B8.out.trans (hb.mono B8.out.size))
      clear hb R8 O8 V8 A8
      go_wp2_with fail
      refine (pulses5_ok A9.out R9.out (fun _ _ => rfl) (by omega)).mono ?_
      rintro e w10 ⟨rfl, hb⟩
      have R10 := Lib.hid (rd_below R9.out hb)
      have V10 := Lib.hid (rd_below V9.out hb)
      have B10 := Lib.hid (B9.out.trans (hb.mono B9.out.size))
      clear hb R9 V9 A9
      go_wp2_with fail
      refine (HA.out _ _ _ _ hkc R10.out).mono ?_
      rintro e w11 ⟨b11, c11, rfl, hb, hi⟩
      have R11 := Lib.hid (rd_below R10.out hb)
      have V11 := Lib.hid (rd_below V10.out hb)
      have X11 := Lib.hid hi
      have B11 := Lib.hid (B10.out.trans (hb.mono B10.out.size))
      clear hb hi R10 V10
      go_wp2_with fail
      refine (HN.out _ _ _ _ k7 V11.out).mono ?_
      rintro e w12 ⟨b12, c12, rfl, hb, hi⟩
      have R12 := Lib.hid (rd_below R11.out hb)
      have X12 := Lib.hid (X11.out.below hb)
      have Y12 := Lib.hid hi
      have B12 := Lib.hid (B11.out.trans (hb.mono B11.out.size))
      clear hb hi R11 V11 X11
      go_wp2_with fail
      refine (HS.out _ _ _ _ hkc R12.out).mono ?_
      rintro e w13 ⟨b13, c13, rfl, k13, hb, ho⟩
      have S13 := Lib.hid ho
      have X13 := Lib.hid (X12.out.below hb)
      have Y13 := Lib.hid (Y12.out.below hb)
      have B13 := Lib.hid (B12.out.trans (hb.mono B12.out.size))
      clear hb ho R12 X12 Y12
      go_wp2_with fail
      refine (HM.out _ _ _ _ k13 S13.out).mono ?_
      rintro e w14 ⟨b14, c14, rfl, hb, hi⟩
      have S14 := Lib.hid (rd_below S13.out hb)
      have X14 := Lib.hid (X13.out.below hb)
      have Y14 := Lib.hid (Y13.out.below hb)
      have Z14 := Lib.hid hi
      have B14 := Lib.hid (B13.out.trans (hb.mono B13.out.size))
      clear hb hi S13 X13 Y13
      go_wp2_with fail
      refine (HT2.out _ _ _ _ k13 S14.out).mono ?_
      rintro e w15 ⟨b15, c15, rfl, k15, hb, ho⟩
      have S15 := Lib.hid (rd_below S14.out hb)
      have X15 := Lib.hid (X14.out.below hb)
      have Y15 := Lib.hid (Y14.out.below hb)
      have Z15 := Lib.hid (Z14.out.below hb)
      have T15 := Lib.hid ho
      have B15 := Lib.hid (B14.out.trans (hb.mono B14.out.size))
      clear hb ho S14 X14 Y14 Z14
      go_wp2_with fail
      refine (likeInts_ok X15.out.rd Z15.out.rd (fun i _ => (HE.out i).symm) (by omega)).mono ?_
      rintro e w16 ⟨rfl, hb⟩
      have S16 := Lib.hid (rd_below S15.out hb)
      have T16 := Lib.hid (rd_below T15.out hb)
      have X16 := Lib.hid (X15.out.below hb)
      have Y16 := Lib.hid (Y15.out.below hb)
      have B16 := Lib.hid (B15.out.trans (hb.mono B15.out.size))
      clear hb S15 T15 X15 Y15 Z15
      go_wp2_with fail
      refine (pulses5_ok T16.out S16.out (fun _ _ => rfl) (by omega)).mono ?_
      rintro e w17 ⟨rfl, hb⟩
      have X17 := Lib.hid (X16.out.below hb)
      have Y17 := Lib.hid (Y16.out.below hb)
      have B17 := Lib.hid (B16.out.trans (hb.mono B16.out.size))
      clear hb S16 T16 X16 Y16
      have hnm : ¬ (m : Int) < (n : Int) := by omega
      go_wp2_with fail
      have HC := Lib.hid (show ∀ ax, -1056964608 ≤ ang P ax m ∧ ang P ax m ≤ 1056964608 from fun ax => by have := HBd.out ax; omega)
      have HY := Lib.hid (show ∀ ax, ang (fun i => inv (P (m - 1 - i))) ax m = -ang P ax m from HNeg.out)
      clear HBd HNeg HE HA HN HS HT2 HM HI HP
      go_loopw [24] (fun i wr => ∃ k : Nat, i = .int .i64 k ∧ k ≤ 3 ∧ Below w17.heap.size w17 wr) (fun i _ => 3 - (intOf i).toNat)
      case atStart => exact ⟨0, rfl, by omega, Below.refl _ _⟩
      case round =>
        obtain ⟨k, rfl, hk, hb⟩ := hrel
        obtain ⟨_, x0, x1, x2⟩ := X17.out.below hb
        obtain ⟨_, y0, y1, y2⟩ := Y17.out.below hb
        have HBr := Lib.hid hb
        clear hb
        simp only [HY.out] at x0 x1 x2 y0 y1 y2
        have C0 := HC.out 0
        have C1 := HC.out 1
        have C2 := HC.out 2
        generalize ang P 0 m = z0 at *
        generalize ang P 1 m = z1 at *
        generalize ang P 2 m = z2 at *
        have e0 : IntKind.i64.wrap (-z0) = -z0 := by rw [IntKind.wrap_i64]; omega
        have e1 : IntKind.i64.wrap (-z1) = -z1 := by rw [IntKind.wrap_i64]; omega
        have e2 : IntKind.i64.wrap (-z2) = -z2 := by rw [IntKind.wrap_i64]; omega
        have hk4 : k = 0 ∨ k = 1 ∨ k = 2 ∨ k = 3 := by omega
        rcases hk4 with rfl | rfl | rfl | rfl
        · go_wp2_with fail
          go_quiet (fail)
          go_wp2_with fail
          go_roundw
          case rel => exact ⟨1, by go_num, by omega, below_drewN' HBr.out _⟩
          case measure => simp [intOf]
        · go_wp2_with fail
          go_quiet (fail)
          go_wp2_with fail
          go_roundw
          case rel => exact ⟨2, by go_num, by omega, below_drewN' HBr.out _⟩
          case measure => simp [intOf]
        · go_wp2_with fail
          go_quiet (fail)
          go_wp2_with fail
          go_roundw
          case rel => exact ⟨3, by go_num, by omega, below_drewN' HBr.out _⟩
          case measure => simp [intOf]
        · go_wp2_with fail
          go_meet
          exact B17.out.trans (HBr.out.mono B17.out.size)
  case rest => as_aux_lemma =>
    have B20 := Lib.hid hcut
    clear hcut I1 S1 HD1 HQ HT R5 B5 B4 B3 B2 R4 R3 R2
    go_wp2_with fail
    refine (HD2.out _ B20.out).mono ?_
    rintro e v21 ⟨ga, ma, kca, Pa, rfl, hma, hkca, hR, hb⟩
    have B21 := Lib.hid (B20.out.trans (hb.mono B20.out.size))
    have Da21 := Lib.hid hR
    clear hb hR B20
    obtain ⟨ka, Qa, qa, hka, hI, hS⟩ := pair_short ma Pa hma
    have Ia := Lib.hid hI
    have Sa := Lib.hid hS
    clear hI hS
    go_wp2_with fail
    refine (Ia.out _ _ _ _ hkca Da21.out).mono ?_
    rintro e v22 ⟨ua, rfl, hb, hx⟩
    have B22 := Lib.hid (B21.out.trans (hb.mono B21.out.size))
    have Da22 := Lib.hid (rd_below Da21.out hb)
    have Ua22 := Lib.hid hx
    clear hb Da21 hx B21
    go_wp2_with fail
    refine (Sa.out _ _ _ _ hkca Da22.out).mono ?_
    rintro e v23 ⟨ub, rfl, hb, hx⟩
    have B23 := Lib.hid (B22.out.trans (hb.mono B22.out.size))
    have Da23 := Lib.hid (rd_below Da22.out hb)
    have Ua23 := Lib.hid (rd_below Ua22.out hb)
    have Ub23 := Lib.hid hx
    clear hb Da22 Ua22 hx B22
    clear Da23 Ia Sa
    go_wp2_with fail
    refine (HD3.out _ B23.out).mono ?_
    rintro e v24 ⟨gc, mc, kcc, Pc, rfl, hmc, hkcc, hR, hb⟩
    have B24 := Lib.hid (B23.out.trans (hb.mono B23.out.size))
    have Ua24 := Lib.hid (rd_below Ua23.out hb)
    have Ub24 := Lib.hid (rd_below Ub23.out hb)
    have Dc24 := Lib.hid hR
    clear hb Ua23 Ub23 hR B23
    obtain ⟨kc, Qc, qc, hkc, hI, hS⟩ := pair_echo mc Pc hmc
    have Ic := Lib.hid hI
    have Sc := Lib.hid hS
    clear hI hS
    go_wp2_with fail
    refine (Ic.out _ _ _ _ hkcc Dc24.out).mono ?_
    rintro e v25 ⟨uc, rfl, hb, hx⟩
    have B25 := Lib.hid (B24.out.trans (hb.mono B24.out.size))
    have Ua25 := Lib.hid (rd_below Ua24.out hb)
    have Ub25 := Lib.hid (rd_below Ub24.out hb)
    have Dc25 := Lib.hid (rd_below Dc24.out hb)
    have Uc25 := Lib.hid hx
    clear hb Ua24 Ub24 Dc24 hx B24
    go_wp2_with fail
    refine (Sc.out _ _ _ _ hkcc Dc25.out).mono ?_
    rintro e v26 ⟨ud, rfl, hb, hx⟩
    have B26 := Lib.hid (B25.out.trans (hb.mono B25.out.size))
    have Ua26 := Lib.hid (rd_below Ua25.out hb)
    have Ub26 := Lib.hid (rd_below Ub25.out hb)
    have Dc26 := Lib.hid (rd_below Dc25.out hb)
    have Uc26 := Lib.hid (rd_below Uc25.out hb)
    have Ud26 := Lib.hid hx
    clear hb Ua25 Ub25 Dc25 Uc25 hx B25
    clear Dc26 Ic Sc
    go_wp2_with fail
    refine (pulses5_ok Ua26.out Ub26.out (fun _ _ => rfl) (by omega)).mono ?_
    rintro e v27 ⟨rfl, hb⟩
    have B27 := Lib.hid (B26.out.trans (hb.mono B26.out.size))
    have Uc27 := Lib.hid (rd_below Uc26.out hb)
    have Ud27 := Lib.hid (rd_below Ud26.out hb)
    clear hb Uc26 Ud26 B26
    clear Ua26 Ub26
    go_wp2_with fail
    refine (pulses5_ok Uc27.out Ud27.out (fun _ _ => rfl) (by omega)).mono ?_
    rintro e v28 ⟨rfl, hb⟩
    have B28 := Lib.hid (B27.out.trans (hb.mono B27.out.size))
    clear hb B27
    clear Uc27 Ud27
    go_wp2_with fail
    refine (HD4.out _ B28.out).mono ?_
    rintro e v29 ⟨ge, me, kce, Pe, rfl, hme, hkce, hR, hb⟩
    have B29 := Lib.hid (B28.out.trans (hb.mono B28.out.size))
    have De29 := Lib.hid hR
    clear hb hR B28
    obtain ⟨ke, Qe, qe, hke, hI, hS⟩ := pair_inv me Pe hme
    have Ie := Lib.hid hI
    have Se := Lib.hid hS
    clear hI hS
    go_wp2_with fail
    refine (Ie.out _ _ _ _ hkce De29.out).mono ?_
    rintro e v30 ⟨ue, rfl, hb, hx⟩
    have B30 := Lib.hid (B29.out.trans (hb.mono B29.out.size))
    have De30 := Lib.hid (rd_below De29.out hb)
    have Ue30 := Lib.hid hx
    clear hb De29 hx B29
    go_wp2_with fail
    refine (Se.out _ _ _ _ hkce De30.out).mono ?_
    rintro e v31 ⟨uf, rfl, hb, hx⟩
    have B31 := Lib.hid (B30.out.trans (hb.mono B30.out.size))
    have De31 := Lib.hid (rd_below De30.out hb)
    have Ue31 := Lib.hid (rd_below Ue30.out hb)
    have Uf31 := Lib.hid hx
    clear hb De30 Ue30 hx B30
    clear De31 Ie Se
    go_wp2_with fail
    refine (HD5.out _ B31.out).mono ?_
    rintro e v32 ⟨gg, mg, kcg, Pg, rfl, hmg, hkcg, hR, hb⟩
    have B32 := Lib.hid (B31.out.trans (hb.mono B31.out.size))
    have Ue32 := Lib.hid (rd_below Ue31.out hb)
    have Uf32 := Lib.hid (rd_below Uf31.out hb)
    have Dg32 := Lib.hid hR
    clear hb Ue31 Uf31 hR B31
    obtain ⟨kg, Qg, qg, hkg, hI, hS⟩ := pair_ang mg Pg hmg
    have Ig := Lib.hid hI
    have Sg := Lib.hid hS
    clear hI hS
    go_wp2_with fail
    refine (Ig.out _ _ _ _ hkcg Dg32.out).mono ?_
    rintro e v33 ⟨ug, rfl, hb, hx⟩
    have B33 := Lib.hid (B32.out.trans (hb.mono B32.out.size))
    have Ue33 := Lib.hid (rd_below Ue32.out hb)
    have Uf33 := Lib.hid (rd_below Uf32.out hb)
    have Dg33 := Lib.hid (rd_below Dg32.out hb)
    have Ug33 := Lib.hid hx
    clear hb Ue32 Uf32 Dg32 hx B32
    go_wp2_with fail
    refine (Sg.out _ _ _ _ hkcg Dg33.out).mono ?_
    rintro e v34 ⟨uh, rfl, hb, hx⟩
    have B34 := Lib.hid (B33.out.trans (hb.mono B33.out.size))
    have Ue34 := Lib.hid (rd_below Ue33.out hb)
    have Uf34 := Lib.hid (rd_below Uf33.out hb)
    have Dg34 := Lib.hid (rd_below Dg33.out hb)
    have Ug34 := Lib.hid (Ug33.out.below hb)
    have Uh34 := Lib.hid hx
    clear hb Ue33 Uf33 Dg33 Ug33 hx B33
    clear Dg34 Ig Sg
    go_wp2_with fail
    refine (HD6.out _ B34.out).mono ?_
    rintro e v35 ⟨t, rfl, ht, hb⟩
    have B35 := Lib.hid (B34.out.trans (hb.mono B34.out.size))
    have Ue35 := Lib.hid (rd_below Ue34.out hb)
    have Uf35 := Lib.hid (rd_below Uf34.out hb)
    have Ug35 := Lib.hid (Ug34.out.below hb)
    have Uh35 := Lib.hid (Uh34.out.below hb)
    clear hb Ue34 Uf34 Ug34 Uh34 B34
    obtain ⟨ki, Qi, qi, hki, hI, hS⟩ := pair_read t ht
    have Ii := Lib.hid hI
    have Si := Lib.hid hS
    clear hI hS ht
    go_wp2_with fail
    refine (Ii.out _ (HV.out _ B35.out)).mono ?_
    rintro e v36 ⟨ui, rfl, hb, hx⟩
    have B36 := Lib.hid (B35.out.trans (hb.mono B35.out.size))
    have Ue36 := Lib.hid (rd_below Ue35.out hb)
    have Uf36 := Lib.hid (rd_below Uf35.out hb)
    have Ug36 := Lib.hid (Ug35.out.below hb)
    have Uh36 := Lib.hid (Uh35.out.below hb)
    have Ui36 := Lib.hid hx
    clear hb Ue35 Uf35 Ug35 Uh35 hx B35
    go_wp2_with fail
    refine (Si.out _).mono ?_
    rintro e v37 ⟨uj, rfl, hb, hx⟩
    have B37 := Lib.hid (B36.out.trans (hb.mono B36.out.size))
    have Ue37 := Lib.hid (rd_below Ue36.out hb)
    have Uf37 := Lib.hid (rd_below Uf36.out hb)
    have Ug37 := Lib.hid (Ug36.out.below hb)
    have Uh37 := Lib.hid (Uh36.out.below hb)
    have Ui37 := Lib.hid (rd_below Ui36.out hb)
    have Uj37 := Lib.hid hx
    clear hb Ue36 Uf36 Ug36 Uh36 Ui36 hx B36
    go_wp2_with fail
    refine (pulses5_ok Ue37.out Uf37.out (fun _ _ => rfl) (by omega)).mono ?_
    rintro e v38 ⟨rfl, hb⟩
    have B38 := Lib.hid (B37.out.trans (hb.mono B37.out.size))
    have Ug38 := Lib.hid (Ug37.out.below hb)
    have Uh38 := Lib.hid (Uh37.out.below hb)
    have Ui38 := Lib.hid (rd_below Ui37.out hb)
    have Uj38 := Lib.hid (rd_below Uj37.out hb)
    clear hb Ug37 Uh37 Ui37 Uj37 B37
    clear Ue37 Uf37
    go_wp2_with fail
    refine (likeInts_ok Ug38.out Uh38.out (fun _ _ => rfl) (by omega)).mono ?_
    rintro e v39 ⟨rfl, hb⟩
    have B39 := Lib.hid (B38.out.trans (hb.mono B38.out.size))
    have Ui39 := Lib.hid (rd_below Ui38.out hb)
    have Uj39 := Lib.hid (rd_below Uj38.out hb)
    clear hb Ui38 Uj38 B38
    clear Ug38 Uh38
    go_wp2_with fail
    refine (pulses5_ok Ui39.out Uj39.out (fun _ _ => rfl) (by omega)).mono ?_
    rintro e v40 ⟨rfl, hb⟩
    have B40 := Lib.hid (B39.out.trans (hb.mono B39.out.size))
    clear hb B39
    clear Ui39 Uj39
    go_wp2_with fail
    go_ret
    exact ⟨rfl, B40.out⟩
end Go.Proofs.YtojcdhnpdinbpaaGreatDoor
