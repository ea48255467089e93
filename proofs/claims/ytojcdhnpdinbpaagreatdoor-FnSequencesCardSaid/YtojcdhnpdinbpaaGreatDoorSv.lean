/- Walks: inverses, as the specification has them. -/
import Derived.Test.YtojcdhnpdinbpaaGreatDoorGv
import Derived.Deep.AppendLies
import Derived.Deep.RegionHeld3
namespace Go.Proofs.YtojcdhnpdinbpaaGreatDoor
open Go.RowKit

/-- The cells of a list of pulses. -/
def cellsL (L : List Pu) : List Value := L.flatMap fun p => [.int .i64 p.ax, .int .i64 p.ha, .bool p.bk]

theorem cellsL_length (L : List Pu) : (cellsL L).length = L.length * 3 := by
  unfold cellsL
  induction L with
  | nil => rfl
  | cons p L ih => simp only [List.flatMap_cons, List.length_append, ih, List.length_cons, List.length_nil]; omega

theorem cellsL_get (L : List Pu) : ∀ j, j < L.length * 3 → (cellsL L)[j]? = some (pc (fun i => L.getD i noPu) j) := by
  induction L with
  | nil => intro j hj; simp at hj
  | cons p L ih =>
    intro j hj
    have e : cellsL (p :: L) = .int .i64 p.ax :: .int .i64 p.ha :: .bool p.bk :: cellsL L := rfl
    rw [e]
    match j, hj with
    | 0, _ => rfl
    | 1, _ => rfl
    | 2, _ => rfl
    | j + 3, hj =>
      have hj' : j < L.length * 3 := by simp only [List.length_cons] at hj; omega
      simp only [List.getElem?_cons_succ]
      rw [ih j hj']
      unfold pc
      have e1 : (j + 3) % 3 = j % 3 := by omega
      have e2 : (j + 3) / 3 = j / 3 + 1 := by omega
      rw [e1, e2]
      simp only [List.getD_cons_succ]

theorem owns_own {w : World} {base n : Nat} {v : Value} {L : List Pu} (h : w.ownsRow base 43 3 v n (cellsL L)) (hL : L.length = n) : Own w v n (fun i => L.getD i noPu) base w.heap.size := by
  obtain ⟨h1, ⟨rfl, rfl⟩ | ⟨g, cap, cur, rfl, hg, hb, hn, hm, hs, ht⟩⟩ := h
  · exact ⟨none, 0, rfl, Nat.le_refl _, fun h0 => absurd h0 (Nat.lt_irrefl _)⟩
  · refine ⟨_, cap, rfl, Nat.le_refl _, fun h0 => ⟨g, n, _, rfl, hg, ?_, Nat.le_refl _, ⟨cap * 3, fun j => (cur[j]?).getD undef, Nat.mul_le_mul_right _ hn, ⟨cur, hb, hs, fun i hi => ?_⟩, fun j hj => ?_⟩, fun _ _ => rfl⟩⟩
    · obtain ⟨hlt, _⟩ := Array.getElem?_eq_some_iff.1 hb
      exact hlt
    · simp only [Array.getElem?_eq_getElem (show i < cur.size by omega), Option.getD_some]
    · have := cellsL_get L j (by omega)
      rw [← ht, List.getElem?_take_of_lt hj, Array.getElem?_toList] at this
      simp only [this, Option.getD_some]

theorem news_three {W : World} {H : Nat} {v0 v1 v2 : Value} (h0 : W.cell? ⟨H, 0, none⟩ = some v0) (h1 : W.cell? ⟨H, 1, none⟩ = some v1) (h2 : W.cell? ⟨H, 2, none⟩ = some v2) :
    ∀ j u, ([v0, v1, v2] : List Value)[j]? = some u → W.cell? ((⟨H, 0, none⟩ : Addr).add j) = some u := by
  intro j u hj
  match j, hj with
  | 0, hj => simp at hj; subst hj; simpa [Addr.add] using h0
  | 1, hj => simp at hj; subst hj; simpa [Addr.add] using h1
  | 2, hj => simp at hj; subst hj; simpa [Addr.add] using h2
  | j + 3, hj => simp at hj

theorem one_three {p : Pu} : ∀ u ∈ ([.int .i64 p.ax, .int .i64 p.ha, .bool p.bk] : List Value), u.oneCell' = true := by
  intro u hu
  simp at hu
  rcases hu with rfl | rfl | rfl <;> rfl

theorem own_congr {w : World} {v : Value} {m lo hi : Nat} {P Q : Nat → Pu} (h : Own w v m P lo hi) (e : ∀ i, i < m → P i = Q i) : Own w v m Q lo hi := by
  obtain ⟨a, cap, rfl, hh, h⟩ := h
  refine ⟨a, cap, rfl, hh, fun h0 => ?_⟩
  obtain ⟨B, N, R, rfl, h1, h2, h3, h4, h5⟩ := h h0
  exact ⟨B, N, R, rfl, h1, h2, h3, h4, fun i hi => (h5 i hi).trans (e i hi)⟩

def inv (p : Pu) : Pu := ⟨p.ax, p.ha, !p.bk⟩

set_option maxRecDepth 100000 in
set_option maxHeartbeats 1000000 in
theorem specInv_yes {n : Nat} {P : Nat → Pu} (hn : n ≤ 1048576) (hs : seqB n P = true) : Gives 22 n P n (fun i => inv (P (n - 1 - i))) 0 := by
  intro w b off cap h
  have HI := Lib.hid (l05Is_ok h hn)
  rw [hs] at HI
  obtain ⟨ti, ti1, ti2⟩ := Option.map_eq_some_iff.1 infoPulse
  obtain ⟨z1, z2, z3⟩ : ti.zero = _ ∧ ti.size = 3 ∧ ti.bytes = 24 := by simpa only [Prod.mk.injEq] using ti2
  obtain ⟨a, cap', hv, h⟩ := h
  injection hv with q1 _ q3
  subst q1 q3
  go_enter Tryz.func22, Tryz.ntmps22
  go_wp2_with fail
  refine HI.out.mono ?_
  rintro e w' ⟨rfl, rfl⟩
  go_wp2_with fail
  go_loopw [4, 5] (fun v' i wr => ∃ k : Nat, k ≤ n ∧ i = .int .i64 ((n : Int) - 1 - k) ∧ wr.ownsRow w.heap.size 43 3 v' k (cellsL ((List.range k).map fun j => inv (P (n - 1 - j)))) ∧ Below w.heap.size w wr) (fun _ i _ => (intOf i + 1).toNat)
  case atStart => exact ⟨0, Nat.zero_le _, by simp, World.ownsRow_made w #[] 0 (Nat.le_refl _) (Nat.zero_le _) rfl, (Below.refl _ _).alloc (Nat.le_refl _) _⟩
  case round =>
    obtain ⟨k, hk, rfl, hown, hb⟩ := hrel
    by_cases hlt : k < n
    · obtain ⟨b', off', q5, hl, hc⟩ := h (by omega)
      injection q5 with q5
      injection q5 with q6 q7
      subst q6 q7
      obtain ⟨i, hi⟩ : ∃ i : Nat, (n : Int) - 1 - k = i := ⟨n - 1 - k, by omega⟩
      have hin : i = n - 1 - k := by omega
      rw [hi]
      obtain ⟨c0, c1, c2⟩ := hc i (by omega)
      have CW := Lib.hid (And.intro c0 (And.intro c1 c2))
      rw [← hb.cell (p := ⟨b, _, none⟩) hl] at c0 c1 c2
      have hsz := hb.size
      have hlt' : (i : Int) < (n : Int) := by omega
      have h0' : (0 : Int) ≤ (i : Int) := by omega
      have HB := Lib.hid hb
      have HO := Lib.hid hown
      have HIN := Lib.hid hin
      clear hb hown hc h hi hin
      go_wp2_with fail
      go_region_held3 (fun w' => w'.cell? ⟨b, off + i * 3, none⟩ = some (.int .i64 (P i).ax) ∧ w'.cell? ⟨b, off + i * 3 + 1, none⟩ = some (.int .i64 (P i).ha) ∧ w'.cell? ⟨b, off + i * 3 + 2, none⟩ = some (.bool (P i).bk)) (first | go_keep | exact ⟨KP.out.1, KP.out.2.1, KP.out.2.2⟩)
        ((first
          | (refine step_append_lies _ rfl _ _ 24 rfl w.heap.size 43 ti _ 3 24 Tryz.underlying24 ti1 z1 z2 z3 rfl (by decide) _ _ _ rfl (HO.out.alloc _) ⟨wr.heap.size, 0, none⟩ 1 1 [.int .i64 (inv (P i)).ax, .int .i64 (inv (P i)).ha, .bool (inv (P i)).bk] rfl rfl (news_three (by simp [go_sem, inv]) (by simp [go_sem, inv]) (by simp [go_sem, inv])) one_three (by decide) (by unfold maxLen; omega) (by omega) (by simp; omega) _ rfl ?_; intro g cap2 w1 hown' hgrow hat hlt2; have HO2 := Lib.hid hown'; have HB2 := Lib.hid (Below.grown (by first | exact HB.out.alloc hsz _ | exact (HB.out.alloc hsz _).drew) hgrow (by simp; omega) (fun g hg => (World.ownsRow.lt HO.out g hg).1)); have KP := Lib.hid (And.intro ((HB2.out.cell (p := ⟨b, off + i * 3, none⟩) hl).trans CW.out.1) (And.intro ((HB2.out.cell (p := ⟨b, off + i * 3 + 1, none⟩) hl).trans CW.out.2.1) ((HB2.out.cell (p := ⟨b, off + i * 3 + 2, none⟩) hl).trans CW.out.2.2))); clear hown' hgrow hat)))
      go_wp2_with fail
      go_roundw
      case rel =>
        refine ⟨k + 1, by omega, congrArg (Value.int .i64) (by have := HIN.out; omega), ?_, HB2.out⟩
        have e : cellsL ((List.range (k + 1)).map fun j => inv (P (n - 1 - j))) = cellsL ((List.range k).map fun j => inv (P (n - 1 - j))) ++ [.int .i64 (P i).ax, .int .i64 (P i).ha, .bool (!(P i).bk)] := by
          rw [List.range_succ, List.map_append]
          unfold cellsL
          rw [List.flatMap_append, HIN.out]
          rfl
        rw [e]
        exact HO2.out
      case measure => simp [intOf]
    · have he : k = n := by omega
      subst he
      have h0' : ((k : Int) - 1 - (k : Int)) < 0 := by omega
      have HB := Lib.hid hb
      have HO := Lib.hid (own_congr (owns_own hown (by simp)) (Q := fun i => inv (P (k - 1 - i))) (fun i hi => by simp [hi]))
      clear hb hown h
      go_wp2_with fail
      go_ret2
      refine ⟨_, rfl, HB.out, ?_⟩
      exact HO.out

theorem specInv_no {n : Nat} {P : Nat → Pu} (hn : n ≤ 1048576) (hs : seqB n P = false) : Gives 22 n P 0 (fun _ => noPu) 1 := by
  intro w b off cap h
  have HI := Lib.hid (l05Is_ok h hn)
  rw [hs] at HI
  obtain ⟨a, cap', hv, h⟩ := h
  injection hv with q1 _ q3
  subst q1 q3
  go_enter Tryz.func22, Tryz.ntmps22
  go_wp2_with fail
  refine HI.out.mono ?_
  rintro e w' ⟨rfl, rfl⟩
  go_wp2_with fail
  go_ret2
  exact ⟨_, rfl, Below.refl _ _, ⟨none, 0, rfl, Nat.le_refl _, fun h0 => absurd h0 (Nat.lt_irrefl _)⟩⟩

/-- The inverse: how many, which, and the code. -/
theorem specInv {n : Nat} {P : Nat → Pu} (hn : n ≤ 1048576) : Gives 22 n P (if seqB n P then n else 0) (if seqB n P then fun i => inv (P (n - 1 - i)) else fun _ => noPu) (if seqB n P then 0 else 1) := by
  cases hs : seqB n P
  · exact specInv_no hn hs
  · exact specInv_yes hn hs
end Go.Proofs.YtojcdhnpdinbpaaGreatDoor
