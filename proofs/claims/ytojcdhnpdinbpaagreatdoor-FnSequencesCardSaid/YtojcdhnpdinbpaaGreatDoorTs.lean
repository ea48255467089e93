/- Walks: SequenceText of the specification. -/
import Derived.Test.YtojcdhnpdinbpaaGreatDoorIw
import Derived.Test.YtojcdhnpdinbpaaGreatDoorTj
import Derived.Test.YtojcdhnpdinbpaaGreatDoorCb
import Derived.Deep.RegionWith
import Derived.Deep.RegionHeld3
import Derived.Deep.DeepCutAuto
namespace Go.Proofs.YtojcdhnpdinbpaaGreatDoor
open Go.RowKit

set_option maxRecDepth 100000 in
theorem dec_low (n : Int) (h0 : 0 ≤ n) (h1 : n < 10) (w : World) : Calls Tryz.prog 51 #[.int .i64 n] w fun e w' => (∃ t : ByteArray, e = .returned (.string t) ∧ t.data.toList = dtx n.toNat) ∧ Below w.heap.size w w' := by
  unfold dtx
  rw [if_pos (by omega)]
  go_enter Tryz.func51, Tryz.ntmps51
  go_wp2_with fail
  go_ret
  refine ⟨⟨_, rfl, ?_⟩, (Below.refl _ _).alloc (Nat.le_refl _) _⟩
  show [UInt8.ofNat (48 + n).toNat] = _
  rw [show (48 + n).toNat = 48 + n.toNat by omega]

set_option maxRecDepth 100000 in
set_option maxHeartbeats 4000000 in
theorem dec_any (n : Int) (h0 : 0 ≤ n) (h1 : n ≤ 24) (w : World) : Calls Tryz.prog 51 #[.int .i64 n] w fun e w' => (∃ t : ByteArray, e = .returned (.string t) ∧ t.data.toList = dtx n.toNat) ∧ Below w.heap.size w w' := by
  by_cases h : n < 10
  · exact dec_low n h0 h w
  · unfold dtx
    rw [if_neg (by omega)]
    have hq : n.toNat / 10 = (n / 10).toNat := by omega
    have hr : n.toNat % 10 = (n % 10).toNat := by omega
    rw [hq, hr]
    have hd : n.tdiv 10 = n / 10 := Int.tdiv_eq_ediv_of_nonneg h0
    have hm : n.tmod 10 = n % 10 := Int.tmod_eq_emod_of_nonneg h0
    have q0 : 0 ≤ n / 10 := by omega
    have q1 : n / 10 ≤ 2 := by omega
    have r0 : 0 ≤ n % 10 := by omega
    have r1 : n % 10 ≤ 9 := by omega
    clear hq hr
    have HL := Lib.hid (fun w => dec_low (n / 10) (by omega) (by omega) w)
    unfold dtx at HL
    rw [if_pos (by omega)] at HL
    generalize n / 10 = q at *
    generalize n % 10 = r at *
    have w1 : IntKind.i64.wrap q = q := by rw [IntKind.wrap_i64]; omega
    have w2 : IntKind.i64.wrap (48 + r) = 48 + r := by rw [IntKind.wrap_i64]; omega
    have w3 : IntKind.u8.wrap (48 + r) = 48 + r := by rw [IntKind.wrap_u8]; omega
    go_enter Tryz.func51, Tryz.ntmps51
    go_wp2_with fail
    go_region_with ((go_at_call 51; refine (HL.out _).mono ?_; rintro e w5 ⟨⟨t5, rfl, ht5⟩, hb5⟩; have HB5 := Lib.hid hb5; have HT5 := Lib.hid ht5; have hs5 : t5.size = 1 := (by rw [Lib.size_eq, ht5]; rfl); have hn5 : ¬ 9223372036854775807 < t5.size + 1 := (by omega); try (have k5 : w5.cell? ⟨w.heap.size, 0, none⟩ = some (Value.int .u8 (48 + r)) := by (refine (hb5.cell (p := ⟨w.heap.size, 0, none⟩) ?_).trans ?_ <;> simp [go_sem])); clear hb5 ht5))
    all_goals
      go_wp2_with fail
      go_ret
      refine ⟨⟨_, rfl, ?_⟩, ?_⟩
      · rw [app_data, HT5.out]
        show [UInt8.ofNat (48 + q.toNat)] ++ [UInt8.ofNat (48 + r).toNat] = _
        rw [show (48 + r).toNat = 48 + r.toNat by omega]
        rfl
      · first
          | exact (((Below.refl w.heap.size w).drew).trans HB5.out).alloc (by have := HB5.out.size; simpa using this) _
          | exact ((((Below.refl w.heap.size w).alloc (Nat.le_refl _) _).drew).trans (HB5.out.mono (by simp)))

theorem below_step {B : Nat} {a W w' : World} (h : Below W.heap.size W w') (h1 : Below B a W) (h2 : B ≤ W.heap.size) : Below B a w' := h1.trans (h.mono h2)
theorem size_of_two {t : ByteArray} {D : List UInt8} (h : t.data.toList = D) (hD : D.length ≤ 2) : t.size ≤ 2 := by rw [Lib.size_eq, h]; exact hD
theorem room_for {t U : ByteArray} (hU : U.size ≤ 302) (h : t.size ≤ 2) : ¬ 9223372036854775807 < U.size + 1 + t.size := by omega
theorem below_plain {w w5 : World} (h : Below w.drew.heap.size w.drew w5) : Below w.heap.size w w5 := ⟨h.os, h.tape, h.output, h.size, h.block⟩
theorem below_new {w w5 : World} {o : Obj} (h : Below (w.alloc o).drew.heap.size (w.alloc o).drew w5) : Below w.heap.size w w5 :=
  (((Below.refl w.heap.size w).alloc (Nat.le_refl _) o).drew).trans (h.mono (by simp))
theorem new_kept {w w5 : World} {v : Value} {t : TypeId} (h : Below (w.alloc (.cells #[v] t)).drew.heap.size (w.alloc (.cells #[v] t)).drew w5) : w5.cell? ⟨w.heap.size, 0, none⟩ = some v := by
  refine (h.cell (p := ⟨w.heap.size, 0, none⟩) (by simp)).trans ?_
  simp [go_sem]

set_option maxRecDepth 100000 in
set_option maxHeartbeats 4000000 in
theorem l05Text_ok {w : World} {v : Value} {n : Nat} {P : Nat → Pu} (h : Rd w v n P) (hs : seqB n P = true) :
    Calls Tryz.prog 32 #[v] w fun e w' => (∃ t : ByteArray, e = .returned (.string t) ∧ t.data.toList = tx P n) ∧ Below w.heap.size w w' := by
  obtain ⟨hok, hn60⟩ := seqB_all hs
  have HT := Lib.hid (show ∀ k, k ≤ n → (tx P k).length ≤ 300 from fun k hk => by have := tx_len k (fun i hi => hok i (by omega)) ; omega)
  have HOK := Lib.hid hok
  clear hok hs
  obtain ⟨a, cap, rfl, h⟩ := h
  go_enter Tryz.func32, Tryz.ntmps32
  go_wp2_with fail
  go_loopw [3, 4] (fun v i wr => ∃ (k : Nat) (t : ByteArray), v = .string t ∧ i = .int .i64 k ∧ k ≤ n ∧ t.data.toList = tx P k ∧ Below w.heap.size w wr) (fun _ i _ => n - (intOf i).toNat)
  case atStart => exact ⟨0, ⟨#[]⟩, rfl, rfl, Nat.zero_le _, rfl, Below.refl _ _⟩
  case round =>
    obtain ⟨k, t, rfl, rfl, hk, ht, hb⟩ := hrel
    by_cases hlt : k < n
    · obtain ⟨b, off, rfl, hl, hc⟩ := h (by omega)
      obtain ⟨c0, c1, c2⟩ := hc k hlt
      rw [← hb.cell (p := ⟨b, _, none⟩) hl] at c0 c1 c2
      have hl2 : b < wr.heap.size := Nat.lt_of_lt_of_le hl hb.size
      have hlt' : (k : Int) < (n : Int) := by omega
      have hts : t.size ≤ 300 := by rw [Lib.size_eq, ht]; exact HT.out k hk
      have ho := HOK.out k hlt
      have HNext : Hid (tx P (k + 1) = tx P k ++ ((if k = 0 then [] else [32]) ++ ptext (P k))) := Lib.hid rfl
      unfold okP at ho
      simp only [Bool.and_eq_true, decide_eq_true_eq] at ho
      obtain ⟨⟨o0, o1⟩, o2, o3⟩ := ho
      have HL := Lib.hid (fun w => dec_any (P k).ha o2 o3 w)
      have hdl := dtx_len (P k).ha.toNat
      generalize P k = p at *
      obtain ⟨x, y, z⟩ := p
      unfold ptext at HNext
      simp only at c0 c1 c2 o0 o1 o2 o3 HL HNext hdl
      generalize dtx y.toNat = Dy at *
      have HTx := Lib.hid ht
      have HB := Lib.hid hb
      have n1 : ¬ 9223372036854775807 < t.size + 1 := by omega
      have n2 : ¬ 9223372036854775807 < t.size + 1 + 1 := by omega
      have n3 : ¬ 9223372036854775807 < t.size + 1 + 1 + 1 := by omega
      clear h hc ht hb
      obtain ⟨a, rfl⟩ := Int.eq_ofNat_of_zero_le o0
      have ha3 : a < 3 := by omega
      have ha0 : (0 : Int) ≤ (a : Int) := by omega
      have ha4 : (a : Int) < 3 := by omega
      obtain ⟨L, hL, hL2⟩ : ∃ L : UInt8, ({ data := #[120, 121, 122] } : ByteArray)[a]'(show a < 3 from ha3) = L ∧ L = UInt8.ofNat (120 + a) := by
        refine ⟨_, rfl, ?_⟩
        match a, ha3 with
        | 0, _ => rfl
        | 1, _ => rfl
        | 2, _ => rfl
      rw [Int.toNat_natCast, ← hL2] at HNext
      clear o0 o1 hL2
      go_upto_if 12 with (fail)
      go_cut [3] (fun s wc => wc = wr ∧ ∃ T : ByteArray, s = .string T ∧ T.data.toList = tx P k ++ (if k = 0 then [] else [32]) ∧ T.size ≤ 301)
      case first =>
        by_cases hk0 : k = 0
        · have HK0 := Lib.hid hk0
          have hk1 : ¬ 0 < k := by omega
          clear hk0
          go_wp2_with fail
          go_meet
          exact ⟨rfl, _, rfl, by rw [if_pos HK0.out, List.append_nil]; exact HTx.out, by omega⟩
        · have hk1 : (0 : Int) < (k : Int) := by omega
          go_wp2_with fail
          go_meet
          exact ⟨rfl, _, rfl, by rw [if_neg hk0, app_data, HTx.out], by rw [ByteArray.size_append]; show t.size + 1 ≤ 301; omega⟩
      case rest =>
        obtain ⟨rfl, T, rfl, hTd, hTs⟩ := hcut
        have hts2 := hTs
        have HTd := Lib.hid hTd
        have m1 : ¬ 9223372036854775807 < T.size + 1 := by omega
        clear hTd n1 n2 n3 HTx hts
        go_upto_if 19 with (fail)
        go_cut [3] (fun s wc2 => wc2 = wc ∧ ∃ U : ByteArray, s = .string U ∧ U.data.toList = T.data.toList ++ (if z then [45] else []) ∧ U.size ≤ 302)
        case first =>
          cases z
          · go_wp2_with fail
            go_meet
            exact ⟨rfl, _, rfl, by simp, by omega⟩
          · go_wp2_with fail
            go_meet
            exact ⟨rfl, _, rfl, by rw [app_data]; rfl, by rw [ByteArray.size_append]; show T.size + 1 ≤ 302; omega⟩
        case rest =>
          obtain ⟨rfl, U, rfl, hUd, hUs⟩ := hcut
          have HUd := Lib.hid hUd
          have n1 : ¬ 9223372036854775807 < U.size + 1 := by omega
          clear hUd m1 hTs hts2
          go_wp2_with fail
          go_region_with ((first | (go_at_call 51; refine (HL.out _).mono ?_; rintro e w5 ⟨⟨t5, rfl, ht5⟩, hb5⟩; have HT5 := Lib.hid ht5; have hs5 := size_of_two ht5 hdl; have hn5 := room_for hUs hs5; have k6 := (Below.cell (p := ⟨b, off + k * 3, none⟩) (show Below wc.drew.heap.size wc.drew w5 from hb5) hl2).trans c0; have HB5 := Lib.hid (below_plain hb5); clear hb5 ht5) | (go_at_call 51; refine (HL.out _).mono ?_; rintro e w5 ⟨⟨t5, rfl, ht5⟩, hb5⟩; have HT5 := Lib.hid ht5; have hs5 := size_of_two ht5 hdl; have hn5 := room_for hUs hs5; have k5 := new_kept (show Below (wc.alloc (.cells #[.int .u8 (L.toNat : Int)] 5)).drew.heap.size (wc.alloc (.cells #[.int .u8 (L.toNat : Int)] 5)).drew w5 from hb5); have HB5 := Lib.hid (below_new (show Below (wc.alloc (.cells #[.int .u8 (L.toNat : Int)] 5)).drew.heap.size (wc.alloc (.cells #[.int .u8 (L.toNat : Int)] 5)).drew w5 from hb5)); clear hb5 ht5)))
          all_goals
            go_wp2_with fail
            go_roundw
            case rel =>
              refine ⟨k + 1, _, rfl, by go_num, by omega, ?_, ?_⟩
              · rw [HNext.out, app_data, app_data, HUd.out, HTd.out, HT5.out]
                simp only [List.append_assoc]
                rfl
              · first
                  | exact below_step HB5.out HB.out (Below.size HB.out)
                  | exact Below.alloc_own (below_step HB5.out HB.out (Below.size HB.out)) _
            case measure => simp [intOf]; omega
    · have he : k = n := by omega
      subst he
      have hlt' : ¬ ((k : Int) < (k : Int)) := by omega
      have HB := Lib.hid hb
      have HTt := Lib.hid ht
      clear hb ht h
      go_wp2_with fail
      go_ret
      exact ⟨⟨_, rfl, HTt.out⟩, HB.out⟩
end Go.Proofs.YtojcdhnpdinbpaaGreatDoor
