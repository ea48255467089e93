/- Numbers in hexadecimal, in small letters, without leading zeros. No dump. -/
namespace Go.Proofs.YtcikohbcndppkaaDoor
namespace Hex

/-- A hexadecimal digit's byte. -/
def ch (d : Nat) : UInt8 := if d < 10 then UInt8.ofNat (48 + d) else UInt8.ofNat (87 + d)
/-- What a byte stands for. -/
def dv (c : UInt8) : Nat := if c.toNat ≤ 57 then c.toNat - 48 else c.toNat - 87
/-- Is it a digit? -/
def isHex (c : UInt8) : Bool := (decide (48 ≤ c.toNat) && decide (c.toNat ≤ 57)) || (decide (97 ≤ c.toNat) && decide (c.toNat ≤ 102))

def txt (n : Nat) : List UInt8 := if n < 16 then [ch n] else txt (n / 16) ++ [ch (n % 16)]
termination_by n
decreasing_by omega

def val (l : List UInt8) : Nat := l.foldl (fun a c => 16 * a + dv c) 0

theorem val_snoc (l : List UInt8) (c : UInt8) : val (l ++ [c]) = 16 * val l + dv c := by simp [val, List.foldl_append]

theorem ch_toNat (d : Nat) (h : d < 16) : (ch d).toNat = if d < 10 then 48 + d else 87 + d := by
  unfold ch
  split
  · rw [UInt8.toNat_ofNat']; omega
  · rw [UInt8.toNat_ofNat']; omega

theorem dv_ch (d : Nat) (h : d < 16) : dv (ch d) = d := by
  unfold dv
  rw [ch_toNat d h]
  split <;> split <;> omega

theorem isHex_ch (d : Nat) (h : d < 16) : isHex (ch d) = true := by
  unfold isHex
  rw [ch_toNat d h]
  split <;> simp <;> omega

theorem hex_nat {c : UInt8} (h : isHex c = true) : (48 ≤ c.toNat ∧ c.toNat ≤ 57) ∨ (97 ≤ c.toNat ∧ c.toNat ≤ 102) := by
  unfold isHex at h
  simpa using h

theorem ch_dv {c : UInt8} (h : isHex c = true) : ch (dv c) = c := by
  apply UInt8.toNat_inj.1
  have h2 := hex_nat h
  have hd : dv c < 16 := by unfold dv; split <;> omega
  rw [ch_toNat _ hd]
  unfold dv
  split <;> split <;> omega

theorem dv_lt {c : UInt8} (h : isHex c = true) : dv c < 16 := by
  have h2 := hex_nat h
  unfold dv; split <;> omega

theorem txt_low (n : Nat) (h : n < 16) : txt n = [ch n] := by rw [txt, if_pos h]
theorem txt_high (n : Nat) (h : ¬ n < 16) : txt n = txt (n / 16) ++ [ch (n % 16)] := by rw [txt, if_neg h]

theorem txt_ne (n : Nat) : txt n ≠ [] := by
  by_cases h : n < 16
  · rw [txt_low n h]; simp
  · rw [txt_high n h]; simp

theorem val_txt (n : Nat) : val (txt n) = n := by
  induction n using Nat.strongRecOn with
  | _ n ih =>
    by_cases h : n < 16
    · rw [txt_low n h]; simp [val, dv_ch n h]
    · rw [txt_high n h, val_snoc, ih (n / 16) (by omega), dv_ch _ (by omega)]; omega

theorem all_txt (n : Nat) : ∀ c ∈ txt n, isHex c = true := by
  induction n using Nat.strongRecOn with
  | _ n ih =>
    by_cases h : n < 16
    · rw [txt_low n h]
      intro c hc
      rw [List.mem_singleton] at hc
      subst hc; exact isHex_ch n h
    · rw [txt_high n h]
      intro c hc
      rcases List.mem_append.1 hc with hc | hc
      · exact ih (n / 16) (by omega) c hc
      · rw [List.mem_singleton] at hc
        subst hc; exact isHex_ch _ (by omega)

theorem head_txt (n : Nat) (h : n ≠ 0) : ∃ c r, txt n = c :: r ∧ c.toNat ≠ 48 := by
  induction n using Nat.strongRecOn with
  | _ n ih =>
    by_cases hn : n < 16
    · refine ⟨ch n, [], txt_low n hn, ?_⟩
      rw [ch_toNat n hn]
      split <;> omega
    · obtain ⟨c, r, hr, hc⟩ := ih (n / 16) (by omega) (by omega)
      exact ⟨c, r ++ [ch (n % 16)], by rw [txt_high n hn, hr]; rfl, hc⟩

theorem txt_zero : txt 0 = [48] := by rw [txt_low 0 (by omega)]; rfl

/-- As texts are written. -/
def Good (l : List UInt8) : Prop := l ≠ [] ∧ (∀ c ∈ l, isHex c = true) ∧ (l = [48] ∨ ∀ c r, l = c :: r → c.toNat ≠ 48)

theorem good_txt (n : Nat) : Good (txt n) := by
  refine ⟨txt_ne n, all_txt n, ?_⟩
  by_cases h : n = 0
  · subst h; exact .inl txt_zero
  · obtain ⟨c, r, hr, hc⟩ := head_txt n h
    refine .inr fun c' r' h' => ?_
    rw [hr] at h'
    injection h' with a b
    rw [← a]; exact hc

theorem val_pos (l : List UInt8) (hall : ∀ c ∈ l, isHex c = true) (c : UInt8) (r : List UInt8) (h : l = c :: r) (hc : c.toNat ≠ 48) : 1 ≤ val l := by
  subst h
  have h1 : ∀ (r : List UInt8) (a : Nat), 1 ≤ a → 1 ≤ r.foldl (fun a c => 16 * a + dv c) a := by
    intro r
    induction r with
    | nil => intro a ha; exact ha
    | cons d r ih => intro a ha; exact ih (16 * a + dv d) (by omega)
  have h2 := hex_nat (hall c (List.mem_cons_self))
  have h3 : 1 ≤ dv c := by unfold dv; split <;> omega
  exact h1 r (16 * 0 + dv c) (by omega)

theorem txt_val (l : List UInt8) (h : Good l) : txt (val l) = l := by
  obtain ⟨hne, hall, hhead⟩ := h
  rcases hhead with rfl | hhead
  · exact txt_zero
  · have key : ∀ (r : List UInt8) (m : List UInt8), m = r.reverse → m ≠ [] → (∀ c ∈ m, isHex c = true) → (∀ c r', m = c :: r' → c.toNat ≠ 48) → txt (val m) = m := by
      intro r
      induction r with
      | nil => intro m hm hn _ _; exact absurd (by rw [hm]; rfl) hn
      | cons c r ih =>
        intro m hm hn ha hh
        have hm' : m = r.reverse ++ [c] := by rw [hm, List.reverse_cons]
        have hc : isHex c = true := ha c (by rw [hm']; simp)
        by_cases hr : r.reverse = []
        · rw [hr] at hm'
          subst hm'
          have : val ([] ++ [c]) = dv c := by simp [val]
          rw [this, txt_low _ (dv_lt hc), ch_dv hc]; rfl
        · have hall' : ∀ d ∈ r.reverse, isHex d = true := fun d hd => ha d (by rw [hm']; exact List.mem_append_left _ hd)
          obtain ⟨d, r', hd⟩ := List.exists_cons_of_ne_nil hr
          have hd48 : d.toNat ≠ 48 := hh d (r' ++ [c]) (by rw [hm', hd]; rfl)
          have hpos := val_pos r.reverse hall' d r' hd hd48
          have ih' := ih r.reverse rfl hr hall' (fun c' r'' h' => by
            rw [hd] at h'
            injection h' with a b
            rw [← a]; exact hd48)
          have hdl := dv_lt hc
          rw [hm', val_snoc, txt_high _ (by omega), show (16 * val r.reverse + dv c) / 16 = val r.reverse by omega, show (16 * val r.reverse + dv c) % 16 = dv c by omega, ih', ch_dv hc]
    exact key l.reverse l (by simp) hne hall hhead

theorem good_iff (l : List UInt8) : Good l ↔ ∃ n, l = txt n :=
  ⟨fun h => ⟨val l, (txt_val l h).symm⟩, fun ⟨n, h⟩ => h ▸ good_txt n⟩

theorem txt_len (n k : Nat) (h : n < 16 ^ (k + 1)) : (txt n).length ≤ k + 1 := by
  induction k generalizing n with
  | zero => rw [txt_low n (by simpa using h)]; simp
  | succ k ih =>
    by_cases hn : n < 16
    · rw [txt_low n hn]; simp
    · rw [txt_high n hn]
      have : n / 16 < 16 ^ (k + 1) := by
        rw [Nat.div_lt_iff_lt_mul (by omega)]
        rw [Nat.pow_succ] at h; exact h
      have := ih (n / 16) this
      simp; omega

theorem val_take_le (l : List UInt8) (k : Nat) : val (l.take k) ≤ val l := by
  have key : ∀ (r : List UInt8) (a : Nat), a ≤ r.foldl (fun a c => 16 * a + dv c) a := by
    intro r
    induction r with
    | nil => intro a; exact Nat.le_refl _
    | cons d r ih => intro a; exact Nat.le_trans (by omega) (ih (16 * a + dv d))
  have h : val l = (l.drop k).foldl (fun a c => 16 * a + dv c) (val (l.take k)) := by
    show l.foldl _ 0 = (l.drop k).foldl _ ((l.take k).foldl _ 0)
    rw [← List.foldl_append, List.take_append_drop]
  rw [h]
  exact key _ _

theorem val_lt (l : List UInt8) (h : ∀ c ∈ l, isHex c = true) : val l < 16 ^ l.length := by
  have key : ∀ (r : List UInt8), (∀ c ∈ r, isHex c = true) → val r.reverse < 16 ^ r.length := by
    intro r
    induction r with
    | nil => intro _; simp [val]
    | cons c r ih =>
      intro ha
      rw [List.reverse_cons, val_snoc]
      have := ih (fun d hd => ha d (List.mem_cons_of_mem _ hd))
      have := dv_lt (ha c (List.mem_cons_self))
      rw [List.length_cons, Nat.pow_succ]
      omega
  have := key l.reverse (by intro c hc; exact h c (by simpa using hc))
  simpa using this

theorem take_snoc (l : List UInt8) (k : Nat) (h : k < l.length) : l.take (k + 1) = l.take k ++ [l[k]] := by
  rw [List.take_succ_eq_append_getElem h]

/-- With a sign. -/
def itxt (i : Int) : List UInt8 := if i < 0 then 45 :: txt i.natAbs else txt i.natAbs

theorem txt_head_ne (n : Nat) (r : List UInt8) (c : UInt8) (h : txt n = c :: r) : isHex c = true := all_txt n c (by rw [h]; exact List.mem_cons_self)

theorem itxt_inj {i j : Int} (h : itxt i = itxt j) : i = j := by
  unfold itxt at h
  have no : ∀ (n m : Nat), 45 :: txt n ≠ txt m := fun n m h => by
    have := txt_head_ne m (txt n) 45 h.symm
    revert this; decide
  split at h <;> split at h
  · injection h with _ h
    have := congrArg val h
    rw [val_txt, val_txt] at this; omega
  · exact absurd h (no _ _)
  · exact absurd h.symm (no _ _)
  · have := congrArg val h
    rw [val_txt, val_txt] at this; omega
end Hex
end Go.Proofs.YtcikohbcndppkaaDoor
