/- Compensated sums: float32 sums and differences of what is no NaN; absolute values. -/
import Derived.Test.YtibmaflcfmphgaaDs
import Derived.Test.YtibmaflcfmphgaaOp
namespace Go.Proofs.Ytibmaflcfmphgaa
open Go.RowKit

/-- A number or an infinity. -/
def NN (x : Nat) : Prop := x < 4294967296 ∧ mag x ≤ 2139095040

/-- A number. -/
def Nu (x : Nat) : Prop := x < 4294967296 ∧ fin x = true

theorem nn_of {x : Nat} (h : Nu x) : NN x := ⟨h.1, by have := of_decide_eq_true h.2; omega⟩

theorem nn_fin {x : Nat} (h : NN x) (hf : fin x = true) : Nu x := ⟨h.1, hf⟩

theorem near_top (f : Ieee.Format) (m : Nat) (e : Int) : Flt.rung f m e ≤ f.infRung := by
  show f.nearest false m e ≤ f.infRung
  unfold Ieee.Format.nearest
  split
  · exact Nat.zero_le _
  · exact Nat.min_le_right _ _

theorem near_inf (m : Nat) (e : Int) : Flt.rung Ieee.single m e ≤ 2139095040 := near_top Ieee.single m e

theorem nn_read {x : Nat} (h : NN x) : (∃ s, Ieee.single.read x = .infinity s) ∨ (∃ s m e, Ieee.single.read x = .number s m e) := by
  by_cases hm : mag x < 2139095040
  · obtain ⟨s, m, e, hr, _⟩ := fin_fit x h.1 (decide_eq_true hm)
    exact .inr ⟨s, m, e, hr⟩
  · left
    have e := word_split x h.1
    rw [show mag x = 2139095040 by have := h.2; omega] at e
    rw [e]
    cases (x / 2147483648 % 2 == 1)
    · exact ⟨false, by decide +kernel⟩
    · exact ⟨true, by decide +kernel⟩

theorem nn_write (d : Ieee.Datum) (h : ∀ s t, d ≠ .nan s t) : NN (Ieee.single.write d) := by
  cases d with
  | nan s t => exact absurd rfl (h s t)
  | infinity s =>
    have := mag_word s 2139095040 (by omega)
    exact ⟨this.1, by rw [show Ieee.single.write (.infinity s) = Ieee.single.word s 2139095040 from rfl, this.2]; omega⟩
  | number s m e =>
    have := mag_S s m e
    exact ⟨this.1, by rw [show Ieee.single.write (.number s m e) = S s m e from rfl, this.2]; exact near_inf m e⟩

/-- Two data, one a number, no NaN: their sum is none. -/
theorem sum_left {d : Ieee.Datum} {s : Bool} {m : Nat} {e : Int} (h : (∃ t, d = .infinity t) ∨ (∃ t n j, d = .number t n j)) : ∃ r, (Ieee.Datum.number s m e).sum d = some r ∧ ∀ a b, r ≠ .nan a b := by
  rcases h with ⟨t, rfl⟩ | ⟨t, n, j, rfl⟩
  · exact ⟨_, rfl, fun _ _ h => by cases h⟩
  · exact ⟨_, rfl, fun _ _ h => by cases h⟩

theorem sum_right {d : Ieee.Datum} {s : Bool} {m : Nat} {e : Int} (h : (∃ t, d = .infinity t) ∨ (∃ t n j, d = .number t n j)) : ∃ r, d.sum (.number s m e) = some r ∧ ∀ a b, r ≠ .nan a b := by
  rcases h with ⟨t, rfl⟩ | ⟨t, n, j, rfl⟩
  · exact ⟨_, rfl, fun _ _ h => by cases h⟩
  · exact ⟨_, rfl, fun _ _ h => by cases h⟩

theorem opp_of {d : Ieee.Datum} (h : (∃ t, d = .infinity t) ∨ (∃ t n j, d = .number t n j)) : (∃ t, d.opposite = .infinity t) ∨ (∃ t n j, d.opposite = .number t n j) := by
  rcases h with ⟨t, rfl⟩ | ⟨t, n, j, rfl⟩
  · exact .inl ⟨_, rfl⟩
  · exact .inr ⟨_, _, _, rfl⟩

theorem nu_read {x : Nat} (h : Nu x) : ∃ s m e, Ieee.single.read x = .number s m e := by
  obtain ⟨s, m, e, hr, _⟩ := fin_fit x h.1 h.2
  exact ⟨s, m, e, hr⟩

/-- The difference of two float32. -/
def sb (x y : Nat) : Nat := (floatBits .sub .f32 x y).getD 0

theorem add_left {x y : Nat} (hx : Nu x) (hy : NN y) : floatBits .add .f32 x y = some (sm x y) ∧ NN (sm x y) := by
  obtain ⟨s, m, e, hr⟩ := nu_read hx
  obtain ⟨r, h, hn⟩ := sum_left (s := s) (m := m) (e := e) (nn_read hy)
  have e1 : floatBits .add .f32 x y = some (Ieee.single.write r) := by
    show Ieee.single.add x y = _
    unfold Ieee.Format.add
    rw [hr, h]
    rfl
  have e2 : sm x y = Ieee.single.write r := by unfold sm; rw [e1]; rfl
  rw [e2]
  exact ⟨e1, nn_write r hn⟩

theorem add_right {x y : Nat} (hx : NN x) (hy : Nu y) : floatBits .add .f32 x y = some (sm x y) ∧ NN (sm x y) := by
  obtain ⟨s, m, e, hr⟩ := nu_read hy
  obtain ⟨r, h, hn⟩ := sum_right (s := s) (m := m) (e := e) (nn_read hx)
  have e1 : floatBits .add .f32 x y = some (Ieee.single.write r) := by
    show Ieee.single.add x y = _
    unfold Ieee.Format.add
    rw [hr, h]
    rfl
  have e2 : sm x y = Ieee.single.write r := by unfold sm; rw [e1]; rfl
  rw [e2]
  exact ⟨e1, nn_write r hn⟩

theorem sub_left {x y : Nat} (hx : Nu x) (hy : NN y) : floatBits .sub .f32 x y = some (sb x y) ∧ NN (sb x y) := by
  obtain ⟨s, m, e, hr⟩ := nu_read hx
  obtain ⟨r, h, hn⟩ := sum_left (s := s) (m := m) (e := e) (opp_of (nn_read hy))
  have e1 : floatBits .sub .f32 x y = some (Ieee.single.write r) := by
    show Ieee.single.sub x y = _
    unfold Ieee.Format.sub
    rw [hr, h]
    rfl
  have e2 : sb x y = Ieee.single.write r := by unfold sb; rw [e1]; rfl
  rw [e2]
  exact ⟨e1, nn_write r hn⟩

/-- One step of a compensated sum: from the sum s, the rest r and the number x. -/
def csT (s x : Nat) : Nat := sm s x
def csL (s x : Nat) : Nat := if mag x ≤ mag s then sm (sb s (csT s x)) x else sm (sb x (csT s x)) s
def csR (s r x : Nat) : Nat := sm r (csL s x)

/-- What a step's operations make: none a NaN. -/
structure Cstep (s r x : Nat) : Prop where
  t : floatBits .add .f32 s x = some (csT s x)
  u1 : floatBits .sub .f32 s (csT s x) = some (sb s (csT s x))
  l1 : floatBits .add .f32 (sb s (csT s x)) x = some (sm (sb s (csT s x)) x)
  u2 : floatBits .sub .f32 x (csT s x) = some (sb x (csT s x))
  l2 : floatBits .add .f32 (sb x (csT s x)) s = some (sm (sb x (csT s x)) s)
  rr : floatBits .add .f32 r (csL s x) = some (csR s r x)
  nt : NN (csT s x)
  nr : NN (csR s r x)

theorem cstep_of {s r x : Nat} (hs : Nu s) (hr : Nu r) (hx : Nu x) : Cstep s r x := by
  have h1 := add_left hs (nn_of hx)
  have h2 := sub_left hs h1.2
  have h3 := add_right h2.2 hx
  have h4 := sub_left hx h1.2
  have h5 := add_right h4.2 hs
  have h6 : NN (csL s x) := by
    unfold csL
    split
    · exact h3.2
    · exact h5.2
  have h7 := add_left hr h6
  exact ⟨h1.1, h2.1, h3.1, h4.1, h5.1, h7.1, h1.2, h7.2⟩

/-- The sum and the rest after the first k numbers. -/
def csS (P : Nat → Nat) : Nat → Nat
  | 0 => 0
  | k + 1 => csT (csS P k) (P k)
def csX (P : Nat → Nat) : Nat → Nat
  | 0 => 0
  | k + 1 => csR (csS P k) (csX P k) (P k)

/-- After k numbers all was a number. -/
def csOk (P : Nat → Nat) (k : Nat) : Bool := fin (csS P k) && fin (csX P k)

/-- What CompensatedSum answers to n words. -/
def csRes (n : Nat) (P : Nat → Nat) : Value :=
  if (List.range n).all (fun i => fin (P i)) = false then .tuple #[.float .f32 0, .int .i64 1]
  else if 100 < n then .tuple #[.float .f32 0, .int .i64 2]
  else if (List.range (n + 1)).all (csOk P) = false then .tuple #[.float .f32 0, .int .i64 3]
  else if fin (sm (csS P n) (csX P n)) then .tuple #[.float .f32 (sm (csS P n) (csX P n)), .int .i64 0] else .tuple #[.float .f32 0, .int .i64 3]

theorem csRes_form {n : Nat} {P : Nat → Nat} : ∃ x c, csRes n P = .tuple #[.float .f32 x, .int .i64 c] ∧ x < 4294967296 ∧ fin x = true := by
  have h0 : (0 : Nat) < 4294967296 ∧ fin 0 = true := ⟨by omega, by decide +kernel⟩
  unfold csRes
  split
  · exact ⟨0, 1, rfl, h0⟩
  split
  · exact ⟨0, 2, rfl, h0⟩
  split
  · exact ⟨0, 3, rfl, h0⟩
  split
  · rename_i h1 h2 h3 h4
    refine ⟨_, 0, rfl, ?_, h4⟩
    have h5 : (List.range (n + 1)).all (csOk P) = true := by simpa using h3
    have h6 : csOk P n = true := List.all_eq_true.1 h5 n (by simp)
    unfold csOk at h6
    simp only [Bool.and_eq_true] at h6
    unfold sm
    cases h : floatBits .add .f32 (csS P n) (csX P n) with
    | none => simp
    | some v => exact floatBits_lt h
  · exact ⟨0, 3, rfl, h0⟩

/-- The absolute value: the greater of a number and its opposite. -/
theorem neg_S' {s : Bool} {m : Nat} {p : Int} : Op.negFloat .f32 (S s m p) = S (!s) m p := by
  obtain ⟨h1, h2⟩ := Flt.nearest_word Ieee.single s m p
  have h3 := (Flt.nearest_word Ieee.single (!s) m p).1
  unfold S
  rw [h3, h1]
  exact Flt.flip_word Ieee.single s _ h2

theorem max_size {P : Program} {x : Nat} (hx : Nu x) (w : World) (ts : Array TypeId) (t : TypeId) :
    (Builtin.max_ ts t #[.float .f32 x, .float .f32 (Op.negFloat .f32 x)]).run P w = .ok (.float .f32 (mag x)) w := by
  obtain ⟨s, m, p, hr, hf, rfl⟩ := fin_fit x hx.1 hx.2
  have ho := Flt.order_fit Ieee.single (by decide) s (!s) m m p p p hf hf (Int.le_refl _) (Int.le_refl _)
  rw [neg_S']
  have hm1 : mag (S s m p) = S false m p := by
    rw [(mag_S s m p).2]
    rfl
  have hm : (Builtin.max2 (.float .f32 (S s m p)) (.float .f32 (S (!s) m p))).run P w = .ok (.float .f32 (mag (S s m p))) w := by
    rw [hm1]
    unfold Builtin.max2
    have ho' : FloatKind.f32.format.order (S s m p) (S (!s) m p) = _ := ho
    by_cases h0 : m = 0
    · subst h0
      have e1 : S false 0 p = 0 := by rw [S_zero]; decide +kernel
      have e2 : S true 0 p = 2147483648 := by rw [S_zero]; decide +kernel
      have o1 : FloatKind.f32.format.order 0 2147483648 = some .eq := by decide +kernel
      have o2 : FloatKind.f32.format.order 2147483648 0 = some .eq := by decide +kernel
      have n1 : (FloatKind.f32.decode 0).neg = false := by decide +kernel
      have n2 : (FloatKind.f32.decode 2147483648).neg = true := by decide +kernel
      cases s
      · rw [show (!false) = true from rfl, e1, e2]
        simp only [o1, n1]
        rfl
      · rw [show (!true) = false from rfl, e1, e2]
        simp only [o2, n2]
        rfl
    · cases s
      · have : compare (Flt.sv false m * 2 ^ (p - p).toNat) (Flt.sv (!false) m * 2 ^ (p - p).toNat) = .gt := cmp_gt (by simp [Flt.sv]; omega)
        simp only [ho', this]; rfl
      · have : compare (Flt.sv true m * 2 ^ (p - p).toNat) (Flt.sv (!true) m * 2 ^ (p - p).toNat) = .lt := cmp_lt (by simp [Flt.sv]; omega)
        simp only [ho', this]; rfl
  unfold Builtin.max_
  simp only [List.foldlM, Sem.run_bind, hm, Result.andThen_ok]
  first | rfl | simp
/-- How numbers of at least 0 stand to each other: as their words. -/
theorem order_nat (x y : Nat) (hx : x < 2139095040) (hy : y < 2139095040) : FloatKind.f32.format.order x y = some (compare x y) := by
  have is : ∀ x, x < 2139095040 → ∃ m p, x = S false m p ∧ Flt.Fit Ieee.single m p ∧ Flt.rung Ieee.single m p = x := by
    intro x hx
    obtain ⟨h1, h2⟩ := S_place x hx
    rcases Nat.lt_or_ge x 8388608 with h | h
    · exact ⟨_, _, (h1 h).2.symm, (h1 h).1, (h1 h).2⟩
    · exact ⟨_, _, (h2 h).2.symm, (h2 h).1, (h2 h).2⟩
  obtain ⟨m, p, e1, f1, r1⟩ := is x hx
  obtain ⟨n, q, e2, f2, r2⟩ := is y hy
  have l1 := fitS_low f1
  have l2 := fitS_low f2
  have ho := Flt.order_fit Ieee.single (by decide) false false m n p q (-149) f1 f2 l1 l2
  have hle : x ≤ y ↔ m * 2 ^ (p - -149).toNat ≤ n * 2 ^ (q - -149).toNat := by
    rw [← r1, ← r2]
    exact ⟨fun h => le_of_rung Ieee.single (by decide) m n p q (-149) f1 f2 l1 l2 h, fun h => Flt.rung_mono Ieee.single m n p q (-149) l1 l2 h⟩
  have hge : y ≤ x ↔ n * 2 ^ (q - -149).toNat ≤ m * 2 ^ (p - -149).toNat := by
    rw [← r1, ← r2]
    exact ⟨fun h => le_of_rung Ieee.single (by decide) n m q p (-149) f2 f1 l2 l1 h, fun h => Flt.rung_mono Ieee.single n m q p (-149) l2 l1 h⟩
  have hz : FloatKind.f32.format.order x y = some (compare (Flt.sv false m * 2 ^ (p - -149).toNat) (Flt.sv false n * 2 ^ (q - -149).toNat)) := by
    rw [e1, e2]; exact ho
  rw [hz]
  have c1 : Flt.sv false m * 2 ^ (p - -149).toNat = ((m * 2 ^ (p - -149).toNat : Nat) : Int) := by simp [Flt.sv]
  have c2 : Flt.sv false n * 2 ^ (q - -149).toNat = ((n * 2 ^ (q - -149).toNat : Nat) : Int) := by simp [Flt.sv]
  rw [c1, c2]
  generalize m * 2 ^ (p - -149).toNat = M at *
  generalize n * 2 ^ (q - -149).toNat = N at *
  congr 1
  simp only [compare, compareOfLessAndEq]
  have q1 : ((M : Int) < N) = (x < y) := propext ⟨fun h => by omega, fun h => by omega⟩
  have q2 : ((M : Int) = N) = (x = y) := propext ⟨fun h => by omega, fun h => by omega⟩
  simp only [q1, q2]

theorem run_geq {P : Program} (w : World) (t : TypeId) {a b : Nat} (ha : a < 2139095040) (hb : b < 2139095040) : (binOp .geq t (.float .f32 a) (.float .f32 b)).run P w = .ok (.bool (decide (b ≤ a))) w := by
  have ho := order_nat a b ha hb
  have hc : (FloatKind.f32.format.order a b == some .gt || FloatKind.f32.format.order a b == some .eq) = decide (b ≤ a) := by
    rw [ho]
    simp only [compare, compareOfLessAndEq]
    by_cases h1 : a < b
    · rw [if_pos h1, decide_eq_false (by omega)]; rfl
    · rw [if_neg h1]
      by_cases h2 : a = b
      · rw [if_pos h2, decide_eq_true (by omega)]; rfl
      · rw [if_neg h2, decide_eq_true (by omega)]; rfl
  rw [← hc]
  first | rfl | simp [binOp, Op.floatCmp]

/-- The three ways in which two such words stand to each other, as a comparison asks. -/
theorem three_ways {a b : Nat} (ha : a < 2139095040) (hb : b < 2139095040) :
    ((FloatKind.f32.format.order a b == some .gt) = true ∧ (FloatKind.f32.format.order a b == some .eq) = false ∧ b ≤ a) ∨ ((FloatKind.f32.format.order a b == some .gt) = false ∧ (FloatKind.f32.format.order a b == some .eq) = true ∧ b ≤ a) ∨
      ((FloatKind.f32.format.order a b == some .gt) = false ∧ (FloatKind.f32.format.order a b == some .eq) = false ∧ ¬ b ≤ a) := by
  rw [order_nat a b ha hb]
  simp only [compare, compareOfLessAndEq]
  by_cases h1 : a < b
  · rw [if_pos h1]
    exact .inr (.inr ⟨rfl, rfl, by omega⟩)
  · rw [if_neg h1]
    by_cases h2 : a = b
    · rw [if_pos h2]
      exact .inr (.inl ⟨rfl, rfl, by omega⟩)
    · rw [if_neg h2]
      exact .inl ⟨rfl, rfl, by omega⟩

theorem mag_top {x : Nat} (h : Nu x) : mag x < 2139095040 := of_decide_eq_true h.2
end Go.Proofs.Ytibmaflcfmphgaa
