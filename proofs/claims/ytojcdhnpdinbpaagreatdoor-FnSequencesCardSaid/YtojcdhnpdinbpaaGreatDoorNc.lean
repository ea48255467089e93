/- Walks: a number in decimal, as the specification reads it. -/
import Derived.Test.YtojcdhnpdinbpaaGreatDoorNb
import Derived.Lib.ItoaWalk
namespace Go.Proofs.YtojcdhnpdinbpaaGreatDoor
open Go.RowKit

theorem getD_in (l : List UInt8) (k : Nat) (h : k < l.length) : l.getD k 0 = l[k] := by simp [List.getD, List.getElem?_eq_getElem h]
theorem take_next (l : List UInt8) (k : Nat) (h : k < l.length) : l.take (k + 1) = l.take k ++ [l[k]] := by
  rw [List.take_add_one, List.getElem?_eq_getElem h]; rfl
theorem not_isD {c : UInt8} (h : ¬ isD c = true) : c.toNat < 48 ∨ 57 < c.toNat := by
  unfold isD at h
  simp only [Bool.and_eq_true, decide_eq_true_eq] at h
  omega
theorem num_bad {l : List UInt8} {c : UInt8} (hm : c ∈ l) (h : ¬ isD c = true) : num l = -1 := by
  unfold num
  split
  · rfl
  · rw [if_neg]
    intro hall
    exact h (List.all_eq_true.1 hall c hm)

set_option maxHeartbeats 2000000 in
set_option maxRecDepth 100000 in
theorem number_in (s : ByteArray) (h1 : 1 ≤ s.size) (h9 : s.size ≤ 9) (h48 : s.size = 1 ∨ s.data.toList.headD 0 ≠ 48) (w : World) :
    Calls Tryz.prog 58 #[.string s] w fun e w' => e = .returned (.int .i64 (num s.data.toList)) ∧ w = w' := by
  obtain ⟨D, hD⟩ : ∃ D, D = s.data.toList := ⟨_, rfl⟩
  have hlen : D.length = s.size := by rw [hD, Lib.size_eq]
  have HD : Hid (s.data.toList = D ∧ D.length = s.size) := Lib.hid ⟨hD.symm, hlen⟩
  rw [← hD] at h48 ⊢
  have hnum : D.all isD = true → num D = (dval D : Int) := by
    intro hall
    unfold num
    rw [if_neg, if_pos hall]
    rintro (h | h | ⟨h, h'⟩)
    · omega
    · omega
    · rcases h48 with h48 | h48
      · omega
      · exact h48 h'
  have hp : 0 < s.size := by omega
  obtain ⟨c0, hc0⟩ : ∃ c0, s[0]'hp = c0 := ⟨_, rfl⟩
  have hc0' : D.headD 0 = c0 := by
    have g1 := Lib.getD_at s 0 hp
    rw [HD.out.1, hc0] at g1
    cases D with
    | nil => simp at hlen; omega
    | cons x r => simpa using g1.symm
  have hz : ((s.size : Int) == 0) = false := by rw [beq_eq_false_iff_ne]; omega
  have hn9 : ¬ (9 : Int) < (s.size : Int) := by omega
  have hgt : ((1 : Int) < (s.size : Int)) ∨ ¬ ((1 : Int) < (s.size : Int)) := by omega
  have HX : Hid ((1 : Int) < (s.size : Int) → (c0.toNat : Int) ≠ 48) := Lib.hid fun h e => by
    rcases h48 with h48 | h48
    · omega
    · exact h48 (hc0'.trans (UInt8.toNat_inj.1 (by show c0.toNat = 48; omega)))
  have HN := Lib.hid hnum
  have H9 := Lib.hid h9
  clear hD hlen h48 hnum hc0' h9
  have HG := Lib.hid (show ∀ c : UInt8, isD c = true → 48 ≤ c.toNat ∧ c.toNat ≤ 57 from fun c h => isD_nat h)
  rcases hgt with hgt | hgt
  · have hne : ((c0.toNat : Int) == 48) = false := by rw [beq_eq_false_iff_ne]; exact HX.out hgt
    clear HX
    go_enter Tryz.func58, Tryz.ntmps58
    go_wp2_with fail
    clear hne hc0 hgt
    go_loop [3, 4] (fun vn vi => ∃ (k : Nat) (a : Int), vn = .int .i64 a ∧ vi = .int .i64 k ∧ k ≤ s.size ∧ 0 ≤ a ∧ a < 1000000000 ∧ Hid (a = (dval (D.take k) : Int) ∧ ∀ c ∈ D.take k, isD c = true)) (fun _ vi => s.size - (intOf vi).toNat)
    case atStart => exact ⟨0, 0, rfl, rfl, by omega, by omega, by omega, Lib.hid ⟨rfl, by simp⟩⟩
    case round =>
      obtain ⟨k, a, rfl, rfl, hk, a0, a1, hh⟩ := hrel
      obtain ⟨ha, hall⟩ := hh.out
      clear hh
      by_cases hkn : k < s.size
      · have hkD : k < D.length := by rw [HD.out.2]; exact hkn
        have hidx : s[k]'hkn = D[k]'hkD := by
          have h1 := Lib.getD_at s k hkn
          rw [HD.out.1, getD_in D k hkD] at h1
          exact h1
        have htk := take_next D k hkD
        have hmem : D[k]'hkD ∈ D := List.getElem_mem _
        generalize D[k]'hkD = c at *
        by_cases hdig : isD c = true
        · have hall' : ∀ d ∈ D.take (k + 1), isD d = true := by
            rw [htk]; intro d hd
            rcases List.mem_append.1 hd with hd | hd
            · exact hall d hd
            · rw [List.mem_singleton] at hd; rw [hd]; exact hdig
          have hbd : dval (D.take (k + 1)) < 1000000000 := dval_lt _ 9 (by rw [List.length_take]; have := H9.out; have := HD.out.2; omega) (List.all_eq_true.2 hall')
          rw [htk, dval_snoc] at hbd
          have hsn : dval (D.take (k + 1)) = dval (D.take k) * 10 + (c.toNat - 48) := by rw [htk, dval_snoc]
          have hc := HG.out c hdig
          have n0 : 0 ≤ a * 10 + ((c.toNat : Int) - 48) := by omega
          have n1 : a * 10 + ((c.toNat : Int) - 48) < 1000000000 := by omega
          have HN2 : Hid (a * 10 + ((c.toNat : Int) - 48) = (dval (D.take (k + 1)) : Int) ∧ ∀ d ∈ D.take (k + 1), isD d = true) := Lib.hid ⟨by omega, hall'⟩
          have hd0 : 48 ≤ (c.toNat : Int) := by omega
          have hd1 : (c.toNat : Int) ≤ 57 := by omega
          clear hall hall' ha hsn htk hmem hdig hbd hkD hc
          go_wp2
          go_round
          case rel => exact ⟨k + 1, a * 10 + ((c.toNat : Int) - 48), by go_num, by go_num, by omega, n0, n1, HN2⟩
          case measure => simp [intOf]; omega
        · have hres : num D = -1 := num_bad hmem hdig
          have HRes := Lib.hid hres
          have hc := not_isD hdig
          have hc256 : c.toNat < 256 := c.toNat_lt
          clear hall ha htk hmem hdig hkD hres
          rcases hc with hc | hc
          all_goals
            go_wp2
            go_ret
            exact ⟨by rw [HRes.out]; rfl, rfl⟩
      · have hkk : k = s.size := by omega
        subst hkk
        have hend : D.take s.size = D := List.take_of_length_le (by rw [HD.out.2]; omega)
        rw [hend] at ha hall
        have HRes := Lib.hid (HN.out (List.all_eq_true.2 hall))
        have HA := Lib.hid ha
        clear ha hall hend hkn
        go_wp2
        go_ret
        exact ⟨by rw [HRes.out, HA.out]; rfl, rfl⟩
  · clear HX
    go_enter Tryz.func58, Tryz.ntmps58
    go_wp2_with fail
    clear hc0 hgt
    go_loop [3, 4] (fun vn vi => ∃ (k : Nat) (a : Int), vn = .int .i64 a ∧ vi = .int .i64 k ∧ k ≤ s.size ∧ 0 ≤ a ∧ a < 1000000000 ∧ Hid (a = (dval (D.take k) : Int) ∧ ∀ c ∈ D.take k, isD c = true)) (fun _ vi => s.size - (intOf vi).toNat)
    case atStart => exact ⟨0, 0, rfl, rfl, by omega, by omega, by omega, Lib.hid ⟨rfl, by simp⟩⟩
    case round =>
      obtain ⟨k, a, rfl, rfl, hk, a0, a1, hh⟩ := hrel
      obtain ⟨ha, hall⟩ := hh.out
      clear hh
      by_cases hkn : k < s.size
      · have hkD : k < D.length := by rw [HD.out.2]; exact hkn
        have hidx : s[k]'hkn = D[k]'hkD := by
          have h1 := Lib.getD_at s k hkn
          rw [HD.out.1, getD_in D k hkD] at h1
          exact h1
        have htk := take_next D k hkD
        have hmem : D[k]'hkD ∈ D := List.getElem_mem _
        generalize D[k]'hkD = c at *
        by_cases hdig : isD c = true
        · have hall' : ∀ d ∈ D.take (k + 1), isD d = true := by
            rw [htk]; intro d hd
            rcases List.mem_append.1 hd with hd | hd
            · exact hall d hd
            · rw [List.mem_singleton] at hd; rw [hd]; exact hdig
          have hbd : dval (D.take (k + 1)) < 1000000000 := dval_lt _ 9 (by rw [List.length_take]; have := H9.out; have := HD.out.2; omega) (List.all_eq_true.2 hall')
          rw [htk, dval_snoc] at hbd
          have hsn : dval (D.take (k + 1)) = dval (D.take k) * 10 + (c.toNat - 48) := by rw [htk, dval_snoc]
          have hc := HG.out c hdig
          have n0 : 0 ≤ a * 10 + ((c.toNat : Int) - 48) := by omega
          have n1 : a * 10 + ((c.toNat : Int) - 48) < 1000000000 := by omega
          have HN2 : Hid (a * 10 + ((c.toNat : Int) - 48) = (dval (D.take (k + 1)) : Int) ∧ ∀ d ∈ D.take (k + 1), isD d = true) := Lib.hid ⟨by omega, hall'⟩
          have hd0 : 48 ≤ (c.toNat : Int) := by omega
          have hd1 : (c.toNat : Int) ≤ 57 := by omega
          clear hall hall' ha hsn htk hmem hdig hbd hkD hc
          go_wp2
          go_round
          case rel => exact ⟨k + 1, a * 10 + ((c.toNat : Int) - 48), by go_num, by go_num, by omega, n0, n1, HN2⟩
          case measure => simp [intOf]; omega
        · have hres : num D = -1 := num_bad hmem hdig
          have HRes := Lib.hid hres
          have hc := not_isD hdig
          have hc256 : c.toNat < 256 := c.toNat_lt
          clear hall ha htk hmem hdig hkD hres
          rcases hc with hc | hc
          all_goals
            go_wp2
            go_ret
            exact ⟨by rw [HRes.out]; rfl, rfl⟩
      · have hkk : k = s.size := by omega
        subst hkk
        have hend : D.take s.size = D := List.take_of_length_le (by rw [HD.out.2]; omega)
        rw [hend] at ha hall
        have HRes := Lib.hid (HN.out (List.all_eq_true.2 hall))
        have HA := Lib.hid ha
        clear ha hall hend hkn
        go_wp2
        go_ret
        exact ⟨by rw [HRes.out, HA.out]; rfl, rfl⟩

set_option maxRecDepth 100000 in
/-- The number that is written, or -1. -/
theorem dec_number (s : ByteArray) (w : World) :
    Calls Tryz.prog 58 #[.string s] w fun e w' => e = .returned (.int .i64 (num s.data.toList)) ∧ w = w' := by
  have hlen : s.data.toList.length = s.size := (Lib.size_eq s).symm
  by_cases h1 : 1 ≤ s.size
  · by_cases h9 : s.size ≤ 9
    · by_cases h48 : s.size = 1 ∨ s.data.toList.headD 0 ≠ 48
      · exact number_in s h1 h9 h48 w
      · have hs1 : s.size ≠ 1 := fun h => h48 (.inl h)
        have hh : s.data.toList.headD 0 = 48 := Decidable.of_not_not fun h => h48 (.inr h)
        have hnum : num s.data.toList = -1 := by unfold num; rw [if_pos (.inr (.inr ⟨by omega, hh⟩))]
        rw [hnum]
        have hp : 0 < s.size := by omega
        have hc0 : s[0]'hp = 48 := by
          have g1 := Lib.getD_at s 0 hp
          rw [g1]
          cases hD : s.data.toList with
          | nil => rw [hD] at hlen; simp at hlen; omega
          | cons x r => rw [hD] at hh; simpa using hh
        have hz : ((s.size : Int) == 0) = false := by rw [beq_eq_false_iff_ne]; omega
        have hn9 : ¬ (9 : Int) < (s.size : Int) := by omega
        have hgt : (1 : Int) < (s.size : Int) := by omega
        clear hlen h48 hs1 hh hnum h9 h1
        go_enter Tryz.func58, Tryz.ntmps58
        go_wp2_with fail
        go_ret
        exact ⟨rfl, rfl⟩
    · have hnum : num s.data.toList = -1 := by unfold num; rw [if_pos (.inr (.inl (by omega)))]
      rw [hnum]
      have hz : ((s.size : Int) == 0) = false := by rw [beq_eq_false_iff_ne]; omega
      have hn9 : (9 : Int) < (s.size : Int) := by omega
      clear hlen hnum h9 h1
      go_enter Tryz.func58, Tryz.ntmps58
      go_wp2_with fail
      go_ret
      exact ⟨rfl, rfl⟩
  · have hnum : num s.data.toList = -1 := by unfold num; rw [if_pos (.inl (by omega))]
    rw [hnum]
    have hz : ((s.size : Int) == 0) = true := by rw [beq_iff_eq]; omega
    clear hlen hnum h1
    go_enter Tryz.func58, Tryz.ntmps58
    go_wp2_with fail
    go_ret
    exact ⟨rfl, rfl⟩
end Go.Proofs.YtojcdhnpdinbpaaGreatDoor
