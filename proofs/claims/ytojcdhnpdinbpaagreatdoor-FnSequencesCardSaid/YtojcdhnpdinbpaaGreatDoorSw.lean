/- The specification's l01Split at a blank. -/
import Derived.Test.YtojcdhnpdinbpaaGreatDoorNc
import Derived.Laws.AppendOwn
import Derived.Deep.DeepCutAuto
namespace Go.Proofs.YtojcdhnpdinbpaaGreatDoor
open Go.RowKit

def str (p : List UInt8) : Value := .string ⟨p.toArray⟩

theorem str_of (t : ByteArray) (p : List UInt8) (h : t.data.toList = p) : Value.string t = str p := by
  subst h; rfl

theorem info_string : (Tryz.prog.info? 9).map (fun i => (i.zero, i.size, i.bytes)) = some (some (.string ⟨#[]⟩), 1, 16) := by kernel_rfl

theorem cut_piece (s : ByteArray) (p k : Nat) (hp : p ≤ k) (hk : k ≤ s.size) : (s.extract p k).data.toList = (s.data.toList.take k).drop p ∧
    (∀ (P : Program) W (ty : TypeId), P.underlying ty = some .string → (Instr.slice ty (.string s) (some (.int .i64 (p : Int))) (some (.int .i64 (k : Int))) none).run P W = .ok (.string (s.extract p k)) W) ∧
    (∀ (P : Program) W (ty : TypeId), P.underlying ty = some .string → (Instr.slice ty (.string s) (some (.int .i64 (p : Int))) none none).run P W = .ok (.string (s.extract p s.size)) W) := by
  refine ⟨?_, fun P W ty ht => ?_, fun P W ty ht => ?_⟩
  · rw [Lib.extract_data, List.drop_take]
  · rw [run_slice_string_if W ty s .i64 .i64 _ _ ht, if_pos ⟨by omega, by omega⟩, if_pos ⟨by omega, by omega⟩]
    rfl
  · rw [run_slice_string_from_if W ty s .i64 _ ht, if_pos ⟨by omega, by omega⟩]
    rfl

theorem ne32 {c : UInt8} (h : c ≠ 32) : ((c.toNat : Int) == 32) = false := by
  have h32 : (32 : UInt8).toNat = 32 := rfl
  rw [beq_eq_false_iff_ne]
  intro e
  exact h (UInt8.toNat_inj.1 (by omega))

def SplitPost (w : World) (D : List UInt8) (e : Ending) (w' : World) : Prop := ∃ v, e = .returned v ∧ w'.ownsRow w.heap.size 9 1 v (wds [] D).length ((wds [] D).map str) ∧ Below w.heap.size w w'

set_option maxHeartbeats 4000000 in
set_option maxRecDepth 100000 in
theorem split_any (s : ByteArray) (hmax : s.size ≤ 4294967000) (w : World) :
    Calls Tryz.prog 57 #[.string s, .int .u8 32] w (SplitPost w s.data.toList) := by
  obtain ⟨i0, hi, hz0, hz1, hz2⟩ := info_parts info_string
  obtain ⟨D, hD⟩ : ∃ D, D = s.data.toList := ⟨_, rfl⟩
  rw [← hD]
  have HD : Hid (s.data.toList = D ∧ D.length = s.size) := Lib.hid ⟨hD.symm, by rw [hD, Lib.size_eq]⟩
  clear hD
  go_enter Tryz.func57, Tryz.ntmps57
  go_wp2_with fail
  go_loopw [5, 6, 7] (fun v at_ i wr => ∃ (p k : Nat) (done : List (List UInt8)), at_ = .int .i64 p ∧ i = .int .i64 k ∧ p ≤ k ∧ k ≤ s.size ∧ wr.ownsRow w.heap.size 9 1 v done.length (done.map str) ∧ done.length ≤ k ∧ Below w.heap.size w wr ∧
      Hid (wds [] D = done ++ wds ((D.take k).drop p) (D.drop k))) (fun _ _ i _ => s.size - (intOf i).toNat)
  case atStart => exact ⟨0, 0, [], rfl, rfl, by omega, by omega, World.ownsRow_made w #[] 0 (Nat.le_refl _) (by unfold maxLen; omega) rfl, by simp, (Below.refl _ _).alloc (Nat.le_refl _) _, Lib.hid (by simp)⟩
  case round =>
    obtain ⟨p, k, done, rfl, rfl, hpk, hk, hown, hdone, hbel, hh⟩ := hrel
    obtain ⟨q1, q2, q3⟩ := cut_piece s p k hpk hk
    have q2 := fun W => q2 Tryz.prog W 9 Tryz.underlying9
    have q3 := fun W => q3 Tryz.prog W 9 Tryz.underlying9
    by_cases hkn : k < s.size
    · have hkD : k < D.length := by rw [HD.out.2]; exact hkn
      have hidx : s[k]'hkn = D[k]'hkD := by
        have h1 := Lib.getD_at s k hkn
        rw [HD.out.1, getD_in D k hkD] at h1
        exact h1
      have hdrop : D.drop k = D[k]'hkD :: D.drop (k + 1) := List.drop_eq_getElem_cons hkD
      have htk := take_next D k hkD
      rw [HD.out.1] at q1
      generalize D[k]'hkD = c at *
      by_cases hc : c = 32
      · subst hc
        have hstr := str_of _ _ q1
        have HStr := Lib.hid hstr
        have HN : Hid (wds [] D = (done ++ [(D.take k).drop p]) ++ wds ((D.take (k + 1)).drop (k + 1)) (D.drop (k + 1))) := Lib.hid (by
          rw [hh.out, hdrop, show wds ((D.take k).drop p) (32 :: D.drop (k + 1)) = (D.take k).drop p :: wds [] (D.drop (k + 1)) from rfl, List.drop_of_length_le (l := D.take (k + 1)) (by rw [List.length_take]; omega), List.append_assoc]; rfl)
        clear hh q1 q2 q3 hdrop htk hkD hstr
        go_wp2_with (at_builtin; refine wpList_append_own _ rfl _ _ 41 rfl w.heap.size 9 i0 (.string ⟨#[]⟩) 1 16 Tryz.underlying41 hi hz0 hz1 hz2 rfl (by decide) _ _ _ rfl (hown.alloc _) ⟨wr.heap.size, 0, none⟩ 1 1 [.string (s.extract p k)] rfl rfl ?c1A ?c2A ?c3A ?c4A ?c5A ?_)
        case c1A =>
          intro j u hj
          match j, hj with
          | 0, hj => simp at hj; subst hj; simp [Addr.add]
        case c2A => intro u hu; simp at hu; subst hu; rfl
        case c3A => unfold maxLen; omega
        case c4A => omega
        case c5A => have := hbel.size; simp; omega
        intro v' w1 hown' hgrow _
        rw [HStr.out] at hown'
        have hbel' : Below w.heap.size w w1 := (hbel.alloc hbel.size _).grown hgrow (by have := hbel.size; simp; omega) (fun j hj => (hown.lt j hj).1)
        have hown2 : w1.ownsRow w.heap.size 9 1 v' (done ++ [(D.take k).drop p]).length ((done ++ [(D.take k).drop p]).map str) := by
          rw [List.map_append, List.length_append]; exact hown'
        have hd2 : (done ++ [(D.take k).drop p]).length ≤ k + 1 := by simp; omega
        have HO := Lib.hid hown2
        have HB := Lib.hid hbel'
        have HD2 := Lib.hid hd2
        clear hown2 hbel' hown' hgrow hown hbel HStr hd2
        go_wp2
        go_roundw
        case rel => exact ⟨k + 1, k + 1, done ++ [(D.take k).drop p], by go_num, by go_num, by omega, by omega, HO.out, HD2.out, HB.out, HN⟩
        case measure => simp [intOf]; omega
      · have hcn := ne32 hc
        have HN : Hid (wds [] D = done ++ wds ((D.take (k + 1)).drop p) (D.drop (k + 1))) := Lib.hid (by
          rw [hh.out, hdrop, show wds ((D.take k).drop p) (c :: D.drop (k + 1)) = (if c = 32 then (D.take k).drop p :: wds [] (D.drop (k + 1)) else wds ((D.take k).drop p ++ [c]) (D.drop (k + 1))) from rfl, if_neg hc, htk, List.drop_append_of_le_length (by rw [List.length_take]; omega)])
        clear hh q1 q2 q3 hdrop htk hc hkD
        go_wp2
        go_roundw
        case rel => exact ⟨p, k + 1, done, rfl, by go_num, by omega, by omega, hown, by omega, hbel, HN⟩
        case measure => simp [intOf]; omega
    · have hkk : k = s.size := by omega
      subst hkk
      have hend : D.take s.size = D := List.take_of_length_le (by rw [HD.out.2]; omega)
      have hdr : D.drop s.size = [] := List.drop_of_length_le (by rw [HD.out.2]; omega)
      rw [HD.out.1] at q1
      have hstr := str_of _ _ q1
      have HN : Hid (wds [] D = done ++ [(D.take s.size).drop p]) := Lib.hid (by rw [hh.out, hdr]; rfl)
      have HStr := Lib.hid hstr
      clear hh q1 q2 q3 hend hdr hstr hkn
      go_wp2_with (at_builtin; refine wpList_append_own _ rfl _ _ 41 rfl w.heap.size 9 i0 (.string ⟨#[]⟩) 1 16 Tryz.underlying41 hi hz0 hz1 hz2 rfl (by decide) _ _ _ rfl (hown.alloc _) ⟨wr.heap.size, 0, none⟩ 1 1 [.string (s.extract p s.size)] rfl rfl ?c1E ?c2E ?c3E ?c4E ?c5E ?_)
      case c1E =>
        intro j u hj
        match j, hj with
        | 0, hj => simp at hj; subst hj; simp [Addr.add]
      case c2E => intro u hu; simp at hu; subst hu; rfl
      case c3E => unfold maxLen; omega
      case c4E => omega
      case c5E => have := hbel.size; simp; omega
      intro v' w1 hown' hgrow _
      rw [HStr.out] at hown'
      have hbel' : Below w.heap.size w w1 := (hbel.alloc hbel.size _).grown hgrow (by have := hbel.size; simp; omega) (fun j hj => (hown.lt j hj).1)
      have hown2 : w1.ownsRow w.heap.size 9 1 v' (wds [] D).length ((wds [] D).map str) := by
        rw [HN.out, List.map_append, List.length_append]; exact hown'
      have HO := Lib.hid hown2
      have HB := Lib.hid hbel'
      clear hown2 hbel' hown' hgrow hown hbel HStr
      go_wp2
      go_ret
      exact ⟨_, rfl, HO.out, HB.out⟩
end Go.Proofs.YtojcdhnpdinbpaaGreatDoor
