/- RampFields of the program. -/
import Derived.Test.YtaghfffbhgpalaaRa2
import Derived.Test.YtaghfffbhgpalaaRaL
import Derived.Test.YtaghfffbhgpalaaKat
namespace Go.Proofs.Ytaghfffbhgpalaa
open Go.RowKit

theorem stop_listR {P : Program} {ops : Array Oper} {Q : Exit → Act → World → Prop} {l : List Oper} {a : Act} {w : World} (h : Hid (wpList P ops Q l a w)) : wpList P ops Q l a w := h

theorem owns_belowR {w w' : World} {base n size : Nat} {e : TypeId} {v : Value} {xs : List Value} (h : w.ownsRow base e size v n xs) (hb : Below w.heap.size w w') : w'.ownsRow base e size v n xs := by
  obtain ⟨h1, ⟨rfl, rfl⟩ | ⟨g, cap, cur, rfl, hg, hk, hn, hm, hs, ht⟩⟩ := h
  · exact ⟨h1, .inl ⟨rfl, rfl⟩⟩
  · have hlt : g < w.heap.size := (Array.getElem?_eq_some_iff.1 hk).1
    exact ⟨h1, .inr ⟨g, cap, cur, rfl, hg, (hb.block g hlt).trans hk, hn, hm, hs, ht⟩⟩

/-- The numbers of a ramp's fields, one behind the other. -/
def rampX (a b c a' b' c' n j : Nat) : Nat :=
  if j % 3 = 0 then between a a' (rampT n (j / 3)) else if j % 3 = 1 then between b b' (rampT n (j / 3)) else between c c' (rampT n (j / 3))

theorem rampX0 (a b c a' b' c' n i : Nat) : rampX a b c a' b' c' n (3 * i) = between a a' (rampT n i) := by
  unfold rampX; rw [if_pos (by omega), show 3 * i / 3 = i by omega]
theorem rampX1 (a b c a' b' c' n i : Nat) : rampX a b c a' b' c' n (3 * i + 1) = between b b' (rampT n i) := by
  unfold rampX; rw [if_neg (by omega), if_pos (by omega), show (3 * i + 1) / 3 = i by omega]
theorem rampX2 (a b c a' b' c' n i : Nat) : rampX a b c a' b' c' n (3 * i + 2) = between c c' (rampT n i) := by
  unfold rampX; rw [if_neg (by omega), if_neg (by omega), show (3 * i + 2) / 3 = i by omega]

/-- The field i is a vector. -/
def rampG (X : Nat → Nat) (i : Nat) : Bool := fin (X (3 * i)) && fin (X (3 * i + 1)) && fin (X (3 * i + 2))

def flR (F : Nat → Nat) (k : Nat) : List Value := (List.range k).map fun j => .float .f32 (F j)

theorem flR_next3 (F : Nat → Nat) (k : Nat) : flR F (3 * (k + 1)) = flR F (3 * k) ++ [.float .f32 (F (3 * k)), .float .f32 (F (3 * k + 1)), .float .f32 (F (3 * k + 2))] := by
  unfold flR
  rw [show 3 * (k + 1) = 3 * k + 1 + 1 + 1 by omega, List.range_succ, List.map_append, List.range_succ, List.map_append, List.range_succ, List.map_append, List.append_assoc, List.append_assoc]
  rfl

theorem owns_ramp {w : World} {base m : Nat} {v : Value} {F : Nat → Nat} (h : w.ownsRow base 27 3 v m (flR F (3 * m))) : OwnW w v m (fun i => .float .f32 (F i)) base w.heap.size := by
  obtain ⟨h1, ⟨rfl, rfl⟩ | ⟨g, cap, cur, rfl, hg, hb, hn, hm, hs, ht⟩⟩ := h
  · exact ⟨none, 0, rfl, Nat.le_refl _, fun h0 => absurd h0 (Nat.lt_irrefl _)⟩
  · refine ⟨_, cap, rfl, Nat.le_refl _, fun h0 => ⟨g, cap * 3, fun j => (cur[j]?).getD undef, rfl, hg, (Array.getElem?_eq_some_iff.1 hb).1, by omega, ⟨cur, hb, by omega, fun i hi => ?_⟩, fun i hi => ?_⟩⟩
    · simp only [Array.getElem?_eq_getElem (show i < cur.size by omega), Option.getD_some]
    · have e : (flR F (3 * m))[i]? = some (.float .f32 (F i)) := by unfold flR; simp [hi]
      rw [← ht, List.getElem?_take_of_lt (by omega), Array.getElem?_toList] at e
      simp only [e, Option.getD_some]

theorem ownw_lo {w : World} {v : Value} {m lo lo' hi : Nat} {F : Nat → Value} (h : OwnW w v m F lo hi) (hl : lo' ≤ lo) : OwnW w v m F lo' hi := by
  obtain ⟨a, cap, rfl, hh, h⟩ := h
  refine ⟨a, cap, rfl, hh, fun h0 => ?_⟩
  obtain ⟨B, N, f, rfl, h1, h2, h3, h4, h5⟩ := h h0
  exact ⟨B, N, f, rfl, by omega, h2, h3, h4, h5⟩

theorem own_nilR {w : World} {lo hi : Nat} {F : Nat → Value} (h : hi ≤ w.heap.size) : OwnW w (.slice none 0 0) 0 F lo hi := ⟨none, 0, rfl, h, fun h0 => absurd h0 (Nat.lt_irrefl _)⟩

theorem infoVec : (Try.prog.info? 27).map (fun i => (i.zero, i.size, i.bytes)) = some (some (.agg #[.float .f32 0, .float .f32 0, .float .f32 0]), 3, 12) := by kernel_rfl

theorem make_roomV (n : Nat) (hn : n ≤ 1048576) (w : World) :
    (Instr.makeSlice 24 (.int .i64 0) (.int .i64 (n : Int))).run Try.prog w = .ok (.slice (some ⟨w.heap.size, 0, none⟩) 0 n) (w.alloc (.cells (madeCells #[.float .f32 0, .float .f32 0, .float .f32 0] (n * 3)) 27)) := by
  obtain ⟨i, hi1, z1, z2, z3⟩ := info_parts infoVec
  have := run_make (P := Try.prog) w 24 27 i _ Try.underlying24 hi1 z1 .i64 .i64 0 n (Int.le_refl _) (by omega) (by rw [z3]; omega) (by omega)
  rw [z2] at this
  have hc : (Value.agg #[.float .f32 0, .float .f32 0, .float .f32 0]).cells = #[.float .f32 0, .float .f32 0, .float .f32 0] := by kernel_rfl
  rw [hc] at this
  simpa using this

theorem news_vec {W : World} {H : Nat} {v0 v1 v2 : Value} (h0 : W.cell? ⟨H, 0, none⟩ = some v0) (h1 : W.cell? ⟨H, 1, none⟩ = some v1) (h2 : W.cell? ⟨H, 2, none⟩ = some v2) :
    ∀ j u, ([v0, v1, v2] : List Value)[j]? = some u → W.cell? ((⟨H, 0, none⟩ : Addr).add j) = some u := by
  intro j u hj
  match j, hj with
  | 0, hj => simp at hj; subst hj; simpa [Addr.add] using h0
  | 1, hj => simp at hj; subst hj; simpa [Addr.add] using h1
  | 2, hj => simp at hj; subst hj; simpa [Addr.add] using h2
  | j + 3, hj => simp at hj

theorem one_vec {x y z : Nat} : ∀ u ∈ ([.float .f32 x, .float .f32 y, .float .f32 z] : List Value), u.oneCell' = true := by
  intro u hu
  simp at hu
  rcases hu with rfl | rfl | rfl <;> rfl

set_option maxRecDepth 100000 in
set_option maxHeartbeats 4000000 in
theorem implRamp_yes {a b c a' b' c' n m : Nat} {code : Int} (ha : Num a) (hb : Num b) (hc : Num c) (ha' : Num a') (hb' : Num b') (hc' : Num c') (n1 : 1 ≤ n) (n2 : n ≤ 300)
    (hres : ((∀ i, i < n → rampG (rampX a b c a' b' c' n) i = true) → m = n ∧ code = 0) ∧ (¬ (∀ i, i < n → rampG (rampX a b c a' b' c' n) i = true) → m = 0 ∧ code = 3)) :
    GivesR 7 a b c a' b' c' n m (rampX a b c a' b' c' n) code := by
  intro w
  have HV := Lib.hid (fun w => isVector_any a b c w ha.1 hb.1 hc.1)
  have HW := Lib.hid (fun w => isVector_any a' b' c' w ha'.1 hb'.1 hc'.1)
  rw [ha.2, hb.2, hc.2] at HV
  rw [ha'.2, hb'.2, hc'.2] at HW
  simp only [Bool.and_self] at HV HW
  have HB3 := Lib.hid (fun k (hk : k < n) => by
    obtain ⟨_, ht, h0⟩ := rampT_ok n2 hk
    obtain ⟨u0, v0, x, b0⟩ := btw_of ha ha' ht h0
    obtain ⟨u1, v1, y, b1⟩ := btw_of hb hb' ht h0
    obtain ⟨u2, v2, z, b2⟩ := btw_of hc hc' ht h0
    have F := fieldBetween_ok b0 b1 b2
    rw [← b0.e, ← b1.e, ← b2.e, ← rampX0 a b c a' b' c' n k, ← rampX1 a b c a' b' c' n k, ← rampX2 a b c a' b' c' n k] at F
    exact F)
  have HQ := Lib.hid (fun k (hk : k < n) (w : World) => run_float_arith (P := Try.prog) w .quo 22 .f32 _ _ _ (rampT_ok n2 hk).1)
  generalize rampX a b c a' b' c' n = X at *
  have hmk := make_roomV n (by omega)
  obtain ⟨ti, ti1, z1, z2, z3⟩ := info_parts infoVec
  have HR := Lib.hid hres
  have hn1 : ¬ ((n : Int) < 1) := by omega
  have hn2 : ¬ ((300 : Int) < (n : Int)) := by omega
  clear ha hb hc ha' hb' hc' hres
  go_enter Try.func7, Try.ntmps7
  go_wp2_with fail
  refine (HV.out _).mono ?_
  rintro e w1 ⟨rfl, hb1⟩
  have T1 := Lib.hid (show Two6 w1 w.heap.size a b c a' b' c' from Two6.below (W := (w.alloc (.cells #[.float .f32 a, .float .f32 b, .float .f32 c] 27)).alloc (.cells #[.float .f32 a', .float .f32 b', .float .f32 c'] 27)) ⟨by simp [go_sem], by simp [go_sem], by simp [go_sem], by simp [go_sem], by simp [go_sem], by simp [go_sem], by simp⟩ hb1)
  have HB1 := Lib.hid (show Below w.heap.size w w1 from below_step hb1 (((Below.refl _ _).alloc (Nat.le_refl _) _).alloc (by simp) _) (by simp; omega))
  clear hb1
  obtain ⟨c0, c1, c2, c3, c4, c5, hl⟩ := T1.out
  go_wp2_with fail
  refine (HW.out _).mono ?_
  rintro e w2 ⟨rfl, hb2⟩
  have T2 := Lib.hid (T1.out.below hb2)
  have HB2 := Lib.hid (below_step hb2 HB1.out HB1.out.size)
  clear hb2 c0 c1 c2 c3 c4 c5 hl T1 HB1
  go_wp2_with fail
  have hown0 : (w2.alloc (.cells (madeCells #[.float .f32 0, .float .f32 0, .float .f32 0] (n * 3)) 27)).ownsRow w2.heap.size 27 3 (.slice (some ⟨w2.heap.size, 0, none⟩) 0 n) 0 [] :=
    World.ownsRow_made w2 _ n (Nat.le_refl _) (by unfold maxLen; omega) (by rw [size_madeCells])
  have B3 := Lib.hid ((Below.refl w2.heap.size w2).alloc (Nat.le_refl _) (.cells (madeCells #[.float .f32 0, .float .f32 0, .float .f32 0] (n * 3)) 27))
  generalize madeCells #[Value.float .f32 0, .float .f32 0, .float .f32 0] (n * 3) = cs at *
  go_loopw [8, 29] (fun v i wr => ∃ k : Nat, i = .int .i64 k ∧ k ≤ n ∧ (∀ i, i < k → rampG X i = true) ∧ wr.ownsRow w2.heap.size 27 3 v k (flR X (3 * k)) ∧ Below w2.heap.size w2 wr) (fun _ i _ => n - (intOf i).toNat)
  case atStart => exact ⟨0, rfl, Nat.zero_le _, fun i hi => absurd hi (Nat.not_lt_zero _), hown0, B3.out⟩
  case round =>
    clear B3 HV HW hmk hown0
    obtain ⟨k, rfl, hk, hg, hown, hb⟩ := hrel
    by_cases hlt : k < n
    · have hlt' : (k : Int) < (n : Int) := by omega
      have hk0 : (0 : Int) ≤ (k : Int) := by omega
      have hk3 : (k : Int) ≤ 300 := by omega
      have hn3 : (n : Int) ≤ 300 := by omega
      have HF := HB3.out k hlt
      have hq := HQ.out k hlt
      have HB := Lib.hid hb
      have HO := Lib.hid hown
      have HG := Lib.hid hg
      have HL := Lib.hid (flR_next3 X k)
      obtain ⟨c0, c1, c2, c3, c4, c5, hl⟩ := T2.out.below hb
      clear hb hown hg HB3 HQ
      by_cases hgk : rampG X k = true
      · have hv : vecOr 3 (X (3 * k)) (X (3 * k + 1)) (X (3 * k + 2)) = .tuple #[.agg #[.float .f32 (X (3 * k)), .float .f32 (X (3 * k + 1)), .float .f32 (X (3 * k + 2))], .int .i64 0] := if_pos hgk
        rw [hv] at HF
        have HF := Lib.hid HF
        have HGK := Lib.hid hgk
        clear hv hgk
        go_wp2_with fail
        refine (HF.out _).mono ?_
        rintro e w3 ⟨rfl, hb3⟩
        have HB3 := Lib.hid ((HB.out.trans (hb3.mono HB.out.size)).alloc (Nat.le_trans HB.out.size hb3.size) (.cells #[.float .f32 (X (3 * k)), .float .f32 (X (3 * k + 1)), .float .f32 (X (3 * k + 2))] 27))
        have HO3 := Lib.hid ((owns_belowR HO.out hb3).alloc (.cells #[.float .f32 (X (3 * k)), .float .f32 (X (3 * k + 1)), .float .f32 (X (3 * k + 2))] 27))
        have hsz : w2.heap.size ≤ w3.heap.size := Nat.le_trans HB.out.size hb3.size
        clear hb3 c0 c1 c2 c3 c4 c5 hl HF
        go_wp2_with (at_builtin; refine stop_listR ?_)
        unfold Hid
        refine wpList_append_own_at _ rfl _ _ 24 rfl w2.heap.size 27 ti _ 3 12 Try.underlying24 ti1 z1 z2 z3 rfl (by decide) _ k _ rfl (by exact HO3.out.alloc _) ⟨w3.heap.size + 1, 0, none⟩ 1 _ [.float .f32 (X (3 * k)), .float .f32 (X (3 * k + 1)), .float .f32 (X (3 * k + 2))] rfl rfl (news_vec (by simp [go_sem]) (by simp [go_sem]) (by simp [go_sem])) one_vec (by unfold maxLen; omega) (by omega) (by simp; omega) ?_
        intro v4 w4 hown hgrow hnil hblk
        have HO4 := Lib.hid hown
        have HB4 := Lib.hid (Below.grown (a := w2) (by exact HB3.out.alloc (by simp; omega) _) hgrow (by simp; omega) (by intro g hg; exact (World.ownsRow.lt HO3.out g hg).1))
        clear hown hgrow hnil hblk
        go_wp2_with fail
        go_roundw
        case rel =>
          refine ⟨k + 1, by go_num, by omega, fun i hi => ?_, ?_, HB4.out⟩
          · rcases Nat.lt_or_ge i k with h | h
            · exact HG.out i h
            · obtain rfl : i = k := by omega
              exact HGK.out
          · rw [HL.out]
            exact HO4.out
        case measure => simp [intOf]; omega
      · have hv : vecOr 3 (X (3 * k)) (X (3 * k + 1)) (X (3 * k + 2)) = .tuple #[.agg #[.float .f32 0, .float .f32 0, .float .f32 0], .int .i64 3] := if_neg hgk
        rw [hv] at HF
        have HF := Lib.hid HF
        obtain ⟨rfl, rfl⟩ := HR.out.2 (fun h => hgk (h k hlt))
        clear hv hgk HR
        go_wp2_with fail
        refine (HF.out _).mono ?_
        rintro e w3 ⟨rfl, hb3⟩
        have HB3 := Lib.hid ((HB.out.trans (hb3.mono HB.out.size)).alloc (Nat.le_trans HB.out.size hb3.size) (.cells #[.float .f32 0, .float .f32 0, .float .f32 0] 27))
        clear hb3 c0 c1 c2 c3 c4 c5 hl HF
        go_wp2_with fail
        exact bodyPost_ret (v := .tuple #[.slice none 0 0, .int .i64 3]) (by simp [results, Try.results7, go_sem]) rfl ⟨_, rfl, HB2.out.trans (HB3.out.mono HB2.out.size), own_nilR (Nat.le_refl _)⟩
    · have he : k = n := by omega
      subst he
      obtain ⟨rfl, rfl⟩ := HR.out.1 hg
      have hlt' : ¬ ((m : Int) < (m : Int)) := by omega
      have HB := Lib.hid (HB2.out.trans (hb.mono HB2.out.size))
      have HO := Lib.hid (ownw_lo (owns_ramp hown) HB2.out.size)
      clear hb hown hg HB3 HQ HR
      go_wp2_with fail
      go_ret2
      exact ⟨_, rfl, HB.out, HO.out⟩

end Go.Proofs.Ytaghfffbhgpalaa
