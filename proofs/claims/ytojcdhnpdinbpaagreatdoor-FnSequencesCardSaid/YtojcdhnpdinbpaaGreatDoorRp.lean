/- Walks: a pulse out of a word, as the program reads it. -/
import Derived.Test.YtojcdhnpdinbpaaGreatDoorTi
import Derived.Test.YtojcdhnpdinbpaaGreatDoorNb
import Derived.Test.YtojcdhnpdinbpaaGreatDoorRs
namespace Go.Proofs.YtojcdhnpdinbpaaGreatDoor
open Go.RowKit

/-- The pieces between blanks are the words. -/
theorem wds_cur (cur l : List UInt8) : ∃ x xs, wds [] l = x :: xs ∧ wds cur l = (cur ++ x) :: xs := by
  induction l generalizing cur with
  | nil => exact ⟨[], [], rfl, by simp [wds]⟩
  | cons c r ih =>
    by_cases hc : c = 32
    · subst hc
      exact ⟨[], wds [] r, by simp [wds], by simp [wds]⟩
    · obtain ⟨x, xs, h1, h2⟩ := ih [c]
      obtain ⟨x', xs', h3, h4⟩ := ih (cur ++ [c])
      rw [h1] at h3
      injection h3 with h5 h6
      subst h5 h6
      refine ⟨c :: x, xs, ?_, ?_⟩
      · rw [show wds [] (c :: r) = (if c = 32 then [] :: wds [] r else wds ([] ++ [c]) r) from rfl, if_neg hc]
        exact h2
      · rw [show wds cur (c :: r) = (if c = 32 then cur :: wds [] r else wds (cur ++ [c]) r) from rfl, if_neg hc, h4]
        simp

theorem index_pre (b : UInt8) (l : List UInt8) (h : b ≠ 32) : Lib.index (b :: l) [32] = if Lib.index l [32] == -1 then -1 else Lib.index l [32] + 1 := by
  have hp : ([32] : List UInt8).isPrefixOf (b :: l) = false := by simp [List.isPrefixOf, Ne.symm h]
  rw [Lib.index, hp]; simp

theorem split_wds (l : List UInt8) : Lib.splitK [32] 0 (Lib.count l [32]) l = wds [] l := by
  induction l with
  | nil => rfl
  | cons b r ih =>
    by_cases hb : b = 32
    · subst hb
      have hix : Lib.index (32 :: r) [32] = 0 := by rw [Lib.index]; simp [List.isPrefixOf]
      rw [Lib.count_cons_eq, Nat.add_comm, Lib.splitK, hix]
      simp only [show ((0 : Int) == -1) = false by decide, Bool.false_eq_true, if_false]
      rw [show wds [] (32 :: r) = [] :: wds [] r by simp [wds], ← ih]
      rfl
    · obtain ⟨x, xs, h1, h2⟩ := wds_cur [b] r
      rw [show wds [] (b :: r) = (if b = 32 then [] :: wds [] r else wds ([] ++ [b]) r) from rfl, if_neg hb, List.nil_append, h2, Lib.count_cons_ne b 32 r hb]
      rw [h1] at ih
      cases hk : Lib.count r [32] with
      | zero =>
        rw [hk] at ih
        have : ([r] : List (List UInt8)) = x :: xs := ih
        injection this with e1 e2
        subst e1 e2
        rfl
      | succ k =>
        rw [hk] at ih
        have hne : Lib.index r [32] ≠ -1 := fun e => by rw [Lib.count_miss e] at hk; cases hk
        have hge := Lib.index_ge r [32]
        obtain ⟨j, hj⟩ : ∃ j : Nat, Lib.index r [32] = j := ⟨(Lib.index r [32]).toNat, by omega⟩
        have hn1 : ¬ ((j : Int) == -1) = true := fun e => by have := beq_iff_eq.1 e; omega
        have hn2 : ¬ ((j : Int) + 1 == -1) = true := fun e => by have := beq_iff_eq.1 e; omega
        have hix := index_pre b r hb
        rw [hj, if_neg hn1] at hix
        rw [Lib.splitK, hj, if_neg hn1] at ih
        rw [Lib.splitK, hix, if_neg hn2]
        injection ih with e1 e2
        rw [show ((j : Int) + 1).toNat + 0 = j + 1 by omega, show ((j : Int) + 1).toNat + ([32] : List UInt8).length = (j + 1) + 1 by simp, List.take_succ_cons, List.drop_succ_cons]
        rw [show (j : Int).toNat + 0 = j by omega] at e1
        rw [show (j : Int).toNat + ([32] : List UInt8).length = j + 1 by simp] at e2
        rw [e1, e2]
        rfl

/-- What the library's two error variables hold. -/
def ErrVars (w : World) : Prop := ∃ (e2 e3 : Value), w.cell? ⟨2, 0, none⟩ = some e2 ∧ w.cell? ⟨3, 0, none⟩ = some e3 ∧ (e2 = .nilIface ∨ ∃ te pe, e2 = .iface te pe) ∧ (e3 = .nilIface ∨ ∃ te pe, e3 = .iface te pe)

theorem ErrVars.below {w w' : World} (h : ErrVars w) (hb : Below w.heap.size w w') : ErrVars w' := by
  obtain ⟨e2, e3, h2, h3, k2, k3⟩ := h
  have b2 := World.block_lt_of_cell? w ⟨2, 0, none⟩ h2
  have b3 := World.block_lt_of_cell? w ⟨3, 0, none⟩ h3
  exact ⟨e2, e3, by rw [hb.cell (p := ⟨2, 0, none⟩) b2]; exact h2, by rw [hb.cell (p := ⟨3, 0, none⟩) b3]; exact h3, k2, k3⟩

def IntOut (l : List UInt8) (e : Ending) : Prop := ∃ (x : Int) (v : Value), e = .returned (.tuple #[.int .i64 x, v]) ∧ ((v = .nilIface ∧ Lib.parseIntB 64 l = .ok x) ∨ ((∃ te pe, v = .iface te pe) ∧ ∀ y, Lib.parseIntB 64 l ≠ .ok y))

theorem parseInt_any (d : ByteArray) (hmax : d.size ≤ 4294967000) (w : World) (hV : ErrVars w) :
    Calls Tryz.prog 55 #[.string d, .int .i64 10, .int .i64 64] w fun e w' => IntOut d.data.toList e ∧ Below w.heap.size w w' := by
  obtain ⟨e2, e3, h2, h3, k2, k3⟩ := hV
  rcases hE : Lib.parseIntB 64 d.data.toList with x | _ | _
  · refine (Tryz.strconv_ParseInt_10_at64_ok d (by omega) x hE w).mono ?_
    rintro e w' ⟨rfl, hw⟩
    refine ⟨⟨x, .nilIface, rfl, .inl ⟨rfl, hE⟩⟩, ?_⟩
    rcases hw with rfl | ⟨t, rfl⟩
    · exact Below.refl _ _
    · exact Lib.bytesWorld_below _ _ _
  · refine (Any.strconv_ParseInt_10_at64_syntax Tryz.laysC174 d (by omega) hE e2 w h2 k2).mono ?_
    rintro e w' ⟨N, rfl, _, _, hb⟩
    exact ⟨⟨_, _, rfl, .inr ⟨⟨_, _, rfl⟩, fun y h => by rw [hE] at h; cases h⟩⟩, hb⟩
  · refine (Any.strconv_ParseInt_10_at64_range Tryz.laysC174 d (by omega) hE e3 w h3 k3).mono ?_
    rintro e w' ⟨N, rfl, _, _, hb⟩
    exact ⟨⟨_, _, rfl, .inr ⟨⟨_, _, rfl⟩, fun y h => by rw [hE] at h; cases h⟩⟩, hb⟩

theorem cut_sgn (q : ByteArray) (bk : Bool) (r : List UInt8) (hq : q.data.toList = wsgn bk r) (hb : bk = false → ∀ d, r ≠ 45 :: d) (w : World) :
    Calls Tryz.prog 53 #[.string q, .string ⟨#[45]⟩] w fun e w' => e = .returned (.tuple #[.string ⟨r.toArray⟩, .bool bk]) ∧ w' = w := by
  have h := Tryz.strings_CutPrefix q ⟨#[45]⟩ w
  have hp : Lib.hasPrefix (wsgn bk r) [45] = bk := by
    unfold Lib.hasPrefix wsgn
    cases bk
    · cases r with
      | nil => rfl
      | cons c d =>
        have : c ≠ 45 := fun e => hb rfl d (by rw [e])
        simp [List.isPrefixOf, Ne.symm this]
    · simp [List.isPrefixOf]
  have ht : Lib.trimPrefix (wsgn bk r) [45] = r := by
    unfold Lib.trimPrefix
    rw [hp]
    cases bk <;> rfl
  rw [hq, show (⟨#[45]⟩ : ByteArray).data.toList = [45] from rfl, hp, ht] at h
  exact h

theorem index_axis (c : UInt8) (w : World) : Calls Tryz.prog 54 #[.string ⟨#[120, 121, 122]⟩, .int .u8 (c.toNat : Int)] w fun e w' => e = .returned (.int .i64 (Lib.indexByte [120, 121, 122] c)) ∧ w' = w := by
  have h := Tryz.strings_IndexByte ⟨#[120, 121, 122]⟩ (c.toNat : Int) w
  rw [Int.toNat_natCast, show c.toNat.toUInt8 = c from UInt8.ofNat_toNat] at h
  exact h
end Go.Proofs.YtojcdhnpdinbpaaGreatDoor
