/- Walks: shortening, as the program has it. -/
import Derived.Test.YtojcdhnpdinbpaaGreatDoorSq
import Derived.Test.YtojcdhnpdinbpaaGreatDoorEi
import Derived.Test.YtojcdhnpdinbpaaGreatDoorJmp
import Derived.WalkMore
import Derived.BigQuiet
import Derived.Deep.QuietTactic
namespace Go.Proofs.YtojcdhnpdinbpaaGreatDoor
open Go.RowKit

theorem eq_pulse (p q : Pu) (w : World) : (binOp .eql 43 (.agg #[.int .i64 p.ax, .int .i64 p.ha, .bool p.bk]) (.agg #[.int .i64 q.ax, .int .i64 q.ha, .bool q.bk])).run Tryz.prog w = .ok (.bool (decide (p = q))) w := by
  obtain ⟨x, y, z⟩ := p
  obtain ⟨x', y', z'⟩ := q
  have hd : decide (Pu.mk x y z = Pu.mk x' y' z') = (decide (x = x') && decide (y = y') && decide (z = z')) := by
    simp only [Pu.mk.injEq, Bool.decide_and, Bool.and_assoc]
  rw [hd]
  have e1 : (x == x') = decide (x = x') := rfl
  have e3 : (z == z') = decide (z = z') := by cases z <;> cases z' <;> rfl
  have ht : Tryz.prog.underlying 43 = some (.struct (Tryz.prog.fieldsOf 43)) := by kernel_rfl
  have hp : Tryz.prog.stoodInHeld 43 = false := by kernel_rfl
  have hf : (Tryz.prog.fieldsOf 43).toList.map (fun f => (f.name == "_", f.type, f.offset)) = [(false, 2, 0), (false, 2, 1), (false, 4, 2)] := by kernel_rfl
  have ui := Tryz.underlying2
  have ub := Tryz.underlying4
  rw [run_eql_struct, show (10000 : Nat) = 9999 + 1 from rfl, run_equalIn_agg w 9999 43 _ _ ht hp]
  simp only [Program.fieldsOf, Tryz.underlying43]
  go_simp
  by_cases h1 : x = x' <;> by_cases h2 : y = y' <;> by_cases h3 : z = z' <;> simp [h1, h2, h3]

theorem turned_agg (k : Pu) (w : World) : Calls Tryz.prog 36 #[.agg #[.int .i64 k.ax, .int .i64 k.ha, .bool k.bk]] w fun e w' => e = .returned (.agg #[.int .i64 k.ax, .int .i64 k.ha, .bool (!k.bk)]) ∧ Below w.heap.size w w' := turned_any k w

theorem owns_last {w : World} {base g kc : Nat} {K : List Pu} {k : Pu} (h : w.ownsRow base 43 3 (.slice (some ⟨g, 0, none⟩) (k :: K).length kc) (k :: K).length (cellsL (k :: K).reverse)) :
    w.cell? ⟨g, K.length * 3, none⟩ = some (.int .i64 k.ax) ∧ w.cell? ⟨g, K.length * 3 + 1, none⟩ = some (.int .i64 k.ha) ∧ w.cell? ⟨g, K.length * 3 + 2, none⟩ = some (.bool k.bk) := by
  have hR := own_rd (owns_own h (by simp))
  obtain ⟨a, cap', hv, h⟩ := hR
  injection hv with q1 _ q3
  subst q1 q3
  obtain ⟨b', off', q5, hl, hc⟩ := h (by simp)
  injection q5 with q5
  injection q5 with q6 q7
  subst q6 q7
  have e : (k :: K).reverse.getD K.length noPu = k := by simp [List.getD]
  have := hc K.length (by simp)
  simpa [e] using this

theorem owns_set {w : World} {base n size g np i : Nat} {e : TypeId} {kc : Nat} {xs : List Value} {v : Value} (h : w.ownsRow base e size (.slice (some ⟨g, 0, none⟩) n kc) n xs) (hne : g ≠ np) : (w.setCell ⟨np, i, none⟩ v).ownsRow base e size (.slice (some ⟨g, 0, none⟩) n kc) n xs := by
  obtain ⟨h1, ⟨h2, _⟩ | ⟨g', cap, cur, h2, hg, hk, hn, hm, hs, ht⟩⟩ := h
  · cases h2
  · injection h2 with q1 _ q3
    injection q1 with q1
    injection q1 with q1
    subst q1 q3
    exact ⟨h1, .inr ⟨g, kc, cur, rfl, hg, (Below.heap_setCell w ⟨np, i, none⟩ v g hne).trans hk, hn, hm, hs, ht⟩⟩

theorem news_at {W : World} {T : TypeId} {v0 v1 v2 : Value} : ∀ j u, ([v0, v1, v2] : List Value)[j]? = some u → (W.alloc (.cells #[v0, v1, v2] T)).cell? ((⟨W.heap.size, 0, none⟩ : Addr).add j) = some u :=
  news_three (by simp [go_sem]) (by simp [go_sem]) (by simp [go_sem])

theorem cells_rev (k : Pu) (K : List Pu) : cellsL (k :: K).reverse = cellsL K.reverse ++ [.int .i64 k.ax, .int .i64 k.ha, .bool k.bk] := by
  unfold cellsL
  simp

theorem owns_cap {w : World} {base n size kc : Nat} {e : TypeId} {a : Option Addr} {xs : List Value} (h : w.ownsRow base e size (.slice a n kc) n xs) : n ≤ kc := by
  obtain ⟨h1, ⟨h2, h3⟩ | ⟨g', cap, cur, h2, hg, hk, hn, hm, hs, ht⟩⟩ := h
  · omega
  · injection h2 with _ _ q3
    omega

theorem below_dn {B : Nat} {a w : World} (h : Below B a w) (n : Nat) : Below B a (w.drewN n) := ⟨h.os, h.tape, h.output, h.size, h.block⟩

theorem set_mid {W : World} {np : Nat} {v0 v1 v2 v : Value} (c : W.cell? ⟨np, 0, none⟩ = some v0 ∧ W.cell? ⟨np, 1, none⟩ = some v1 ∧ W.cell? ⟨np, 2, none⟩ = some v2) :
    (W.setCell ⟨np, 1, none⟩ v).cell? ⟨np, 0, none⟩ = some v0 ∧ (W.setCell ⟨np, 1, none⟩ v).cell? ⟨np, 1, none⟩ = some v ∧ (W.setCell ⟨np, 1, none⟩ v).cell? ⟨np, 2, none⟩ = some v2 :=
  ⟨(World.cell?_setCell_other W ⟨np, 1, none⟩ ⟨np, 0, none⟩ v (by simp)).trans c.1, World.cell?_setCell_same W ⟨np, 1, none⟩ v c.2.1, (World.cell?_setCell_other W ⟨np, 1, none⟩ ⟨np, 2, none⟩ v (by simp)).trans c.2.2⟩

theorem set_all {W : World} {np : Nat} {v0 v1 v2 : Value} (x y z : Value) (c : W.cell? ⟨np, 0, none⟩ = some v0 ∧ W.cell? ⟨np, 1, none⟩ = some v1 ∧ W.cell? ⟨np, 2, none⟩ = some v2) :
    (((W.setCell ⟨np, 0, none⟩ x).setCell ⟨np, 1, none⟩ y).setCell ⟨np, 2, none⟩ z).cell? ⟨np, 0, none⟩ = some x ∧ (((W.setCell ⟨np, 0, none⟩ x).setCell ⟨np, 1, none⟩ y).setCell ⟨np, 2, none⟩ z).cell? ⟨np, 1, none⟩ = some y ∧ (((W.setCell ⟨np, 0, none⟩ x).setCell ⟨np, 1, none⟩ y).setCell ⟨np, 2, none⟩ z).cell? ⟨np, 2, none⟩ = some z := by
  have e0 := World.cell?_setCell_same W ⟨np, 0, none⟩ x c.1
  have e1 := (World.cell?_setCell_other W ⟨np, 0, none⟩ ⟨np, 1, none⟩ x (by simp)).trans c.2.1
  have e2 := (World.cell?_setCell_other W ⟨np, 0, none⟩ ⟨np, 2, none⟩ x (by simp)).trans c.2.2
  have g0 := (World.cell?_setCell_other (W.setCell ⟨np, 0, none⟩ x) ⟨np, 1, none⟩ ⟨np, 0, none⟩ y (by simp)).trans e0
  have g1 := World.cell?_setCell_same (W.setCell ⟨np, 0, none⟩ x) ⟨np, 1, none⟩ y e1
  have g2 := (World.cell?_setCell_other (W.setCell ⟨np, 0, none⟩ x) ⟨np, 1, none⟩ ⟨np, 2, none⟩ y (by simp)).trans e2
  exact ⟨(World.cell?_setCell_other _ ⟨np, 2, none⟩ ⟨np, 0, none⟩ z (by simp)).trans g0, (World.cell?_setCell_other _ ⟨np, 2, none⟩ ⟨np, 1, none⟩ z (by simp)).trans g1, World.cell?_setCell_same _ ⟨np, 2, none⟩ z g2⟩

theorem push_facts {w wr w3 : World} {o : Obj} {g kc m np : Nat} (hgrow : (wr.alloc o).grownBy w3 (Value.slice (some ⟨g, 0, none⟩) m kc).ownBlock) (hb : Below w.heap.size w wr) (hgg : w.heap.size ≤ g) (hg1 : g ≠ np) (hnp : np < wr.heap.size) :
    Below w.heap.size w w3 ∧ np < w3.heap.size ∧ (∀ i, w3.cell? ⟨np, i, none⟩ = wr.cell? ⟨np, i, none⟩) ∧ (∀ i, w3.frozen? ⟨np, i, none⟩ = wr.frozen? ⟨np, i, none⟩) := by
  have hs : np < (wr.alloc o).heap.size := by simp; omega
  have ho : some np ≠ (Value.slice (some ⟨g, 0, none⟩) m kc).ownBlock := by
    intro e
    have : np = g := by simpa [Value.ownBlock] using e
    exact hg1 this.symm
  refine ⟨Below.grown (Below.alloc_own hb _) hgrow (by have := hb.size; simp; omega) ?_, Nat.lt_of_lt_of_le hs hgrow.size, fun i => ?_, fun i => ?_⟩
  · intro q hq
    have : g = q := by simpa [Value.ownBlock] using hq
    omega
  · exact (hgrow.cell_far ⟨np, i, none⟩ hs ho).trans (World.cell?_of_block (w := wr) (heap_alloc_old _ _ hnp))
  · exact (hgrow.frozen_far ⟨np, i, none⟩ hs ho).trans (World.frozen?_of_block (w := wr) (heap_alloc_old _ _ hnp))

theorem red_inv (k : Pu) : red k (inv k) = true ∧ mrg k (inv k) = [] := by
  obtain ⟨x, y, z⟩ := k
  unfold red mrg inv
  cases z <;> simp

theorem red_same {k : Pu} (h : 0 < k.ha) : red k k = true ∧ mrg k k = [⟨k.ax, k.ha - 1, k.bk⟩] := by
  obtain ⟨x, y, z⟩ := k
  unfold red mrg
  simp only at h
  simp; omega

theorem red_else {k x : Pu} (hk : okP k = true) (h1 : ¬ x = inv k) (h2 : ¬ (x = k ∧ 0 < x.ha)) : red k x = false := by
  obtain ⟨a, b, c⟩ := k
  obtain ⟨d, e, f⟩ := x
  unfold okP at hk
  unfold red
  simp [inv] at hk h1 h2 ⊢
  intro h3 h4
  subst h3 h4
  have h5 := h1 rfl rfl
  have h6 : f = c := by cases f <;> cases c <;> simp_all
  subst h6
  have := h2 rfl rfl rfl
  exact ⟨rfl, by omega⟩

theorem owns_cut {w : World} {base g kc m : Nat} {e : TypeId} {xs ys : List Value} (h : w.ownsRow base e 3 (.slice (some ⟨g, 0, none⟩) (m + 1) kc) (m + 1) (xs ++ ys)) (hx : xs.length = m * 3) : w.ownsRow base e 3 (.slice (some ⟨g, 0, none⟩) m kc) m xs := by
  obtain ⟨h1, ⟨h2, _⟩ | ⟨g', cap, cur, h2, hg, hk, hn, hm, hs, ht⟩⟩ := h
  · cases h2
  · injection h2 with q1 q2 q3
    injection q1 with q1
    injection q1 with q1
    subst q1 q3
    refine ⟨hx, .inr ⟨_, _, cur, rfl, hg, hk, by omega, hm, hs, ?_⟩⟩
    have e : cur.toList.take (m * 3) = ((cur.toList).take ((m + 1) * 3)).take (m * 3) := by rw [List.take_take]; congr 1; omega
    rw [e, ht, ← hx, List.take_left']
    rfl

/-- What is to come. -/
def todo (n j : Nat) (P : Nat → Pu) : List Pu := (List.range (n - j)).map (fun i => P (j + i))

theorem todo_next {n j : Nat} (P : Nat → Pu) (hj : j < n) : todo n j P = P j :: todo n (j + 1) P := by
  unfold todo
  apply List.ext_getElem
  · simp; omega
  · intro i h1 h2
    cases i with
    | zero => simp
    | succ i => simp [show j + 1 + i = j + (i + 1) by omega]

theorem todo_end {n j : Nat} (P : Nat → Pu) (hj : n ≤ j) : todo n j P = [] := by
  unfold todo
  rw [show n - j = 0 by omega]; rfl

/-- What holds at the labels: what is kept, what is to come, the next pulse. -/
def shJ (w0 : World) (Lv : Value) (b off n : Nat) (P : Nat → Pu) (np : Nat) (l : Nat) (a' : Act) (wr : World) : Prop :=
  ∃ (K : List Pu) (j : Nat) (x : Pu) (g kc rc : Nat) (ad : Option Addr) (U : Nat → Value), a' = { tmps := #[Lv, undef, .slice none 0 0, .slice (some ⟨g, 0, none⟩) K.length kc, .slice ad (n - j) rc, .pointer (some ⟨np, 0, none⟩), U 6, U 7, U 8, U 9, U 10, U 11, U 12, U 13, U 14, U 15, U 16, U 17, U 18, U 19, U 20, U 21, U 22, U 23, U 24, U 25, U 26, U 27, U 28, U 29, U 30, U 31, U 32, U 33, U 34, U 35, U 36, U 37, U 38, U 39, U 40, U 41, U 42, U 43, U 44, U 45, U 46, U 47, U 48, U 49, U 50, U 51, U 52, U 53, U 54, U 55, U 56, U 57, U 58, U 59, U 60, U 61, U 62], defers := [] } ∧
    Below w0.heap.size w0 wr ∧ wr.ownsRow w0.heap.size 43 3 (.slice (some ⟨g, 0, none⟩) K.length kc) K.length (cellsL K.reverse) ∧ (g ≠ np ∧ w0.heap.size ≤ np ∧ np < wr.heap.size) ∧
    (wr.cell? ⟨np, 0, none⟩ = some (.int .i64 x.ax) ∧ wr.cell? ⟨np, 1, none⟩ = some (.int .i64 x.ha) ∧ wr.cell? ⟨np, 2, none⟩ = some (.bool x.bk)) ∧
    (wr.frozen? ⟨np, 0, none⟩ = false ∧ wr.frozen? ⟨np, 1, none⟩ = false ∧ wr.frozen? ⟨np, 2, none⟩ = false) ∧
    (j ≤ n ∧ n - j ≤ rc ∧ (j < n → ad = some ⟨b, off + j * 3, none⟩) ∧ K.length + (n - j) + l ≤ n) ∧ (∀ y ∈ K, okP y = true) ∧
    ((l = 0 ∧ mach K (todo n j P) = short ((List.range n).map P)) ∨ (l = 1 ∧ okP x = true ∧ mach K (x :: todo n j P) = short ((List.range n).map P)))

theorem shJ_only {w0 : World} {Lv : Value} {b off n np l : Nat} {P : Nat → Pu} {a' : Act} {wr : World} (h : shJ w0 Lv b off n P np l a' wr) : l = 0 ∨ l = 1 := by
  obtain ⟨K, j, x, g, kc, rc, ad, U, _, _, _, _, _, _, _, _, ⟨h, _⟩ | ⟨h, _⟩⟩ := h
  · exact .inl h
  · exact .inr h

theorem shJ_intro {w0 : World} {Lv : Value} {b off n np l : Nat} {P : Nat → Pu} {wr : World} {g kc m rc : Nat} {ad : Option Addr} {r : Nat} {u6 u7 u8 u9 u10 u11 u12 u13 u14 u15 u16 u17 u18 u19 u20 u21 u22 u23 u24 u25 u26 u27 u28 u29 u30 u31 u32 u33 u34 u35 u36 u37 u38 u39 u40 u41 u42 u43 u44 u45 u46 u47 u48 u49 u50 u51 u52 u53 u54 u55 u56 u57 u58 u59 u60 u61 u62 : Value} (K : List Pu) (j : Nat) (x : Pu) (h0 : K.length = m) (hr : n - j = r) (h1 : Below w0.heap.size w0 wr)
    (h2 : wr.ownsRow w0.heap.size 43 3 (.slice (some ⟨g, 0, none⟩) K.length kc) K.length (cellsL K.reverse)) (h3 : g ≠ np ∧ w0.heap.size ≤ np ∧ np < wr.heap.size)
    (h4 : wr.cell? ⟨np, 0, none⟩ = some (.int .i64 x.ax) ∧ wr.cell? ⟨np, 1, none⟩ = some (.int .i64 x.ha) ∧ wr.cell? ⟨np, 2, none⟩ = some (.bool x.bk))
    (h5 : wr.frozen? ⟨np, 0, none⟩ = false ∧ wr.frozen? ⟨np, 1, none⟩ = false ∧ wr.frozen? ⟨np, 2, none⟩ = false)
    (h6 : j ≤ n ∧ n - j ≤ rc ∧ (j < n → ad = some ⟨b, off + j * 3, none⟩) ∧ K.length + (n - j) + l ≤ n) (h7 : ∀ y ∈ K, okP y = true)
    (h8 : (l = 0 ∧ mach K (todo n j P) = short ((List.range n).map P)) ∨ (l = 1 ∧ okP x = true ∧ mach K (x :: todo n j P) = short ((List.range n).map P))) :
    shJ w0 Lv b off n P np l { tmps := #[Lv, undef, .slice none 0 0, .slice (some ⟨g, 0, none⟩) m kc, .slice ad r rc, .pointer (some ⟨np, 0, none⟩), u6, u7, u8, u9, u10, u11, u12, u13, u14, u15, u16, u17, u18, u19, u20, u21, u22, u23, u24, u25, u26, u27, u28, u29, u30, u31, u32, u33, u34, u35, u36, u37, u38, u39, u40, u41, u42, u43, u44, u45, u46, u47, u48, u49, u50, u51, u52, u53, u54, u55, u56, u57, u58, u59, u60, u61, u62], defers := [] } wr := by
  subst h0 hr
  exact ⟨K, j, x, g, kc, rc, ad, fun i => (#[undef, undef, undef, undef, undef, undef, u6, u7, u8, u9, u10, u11, u12, u13, u14, u15, u16, u17, u18, u19, u20, u21, u22, u23, u24, u25, u26, u27, u28, u29, u30, u31, u32, u33, u34, u35, u36, u37, u38, u39, u40, u41, u42, u43, u44, u45, u46, u47, u48, u49, u50, u51, u52, u53, u54, u55, u56, u57, u58, u59, u60, u61, u62] : Array Value).getD i undef, rfl, h1, h2, h3, h4, h5, h6, h7, h8⟩

def shM (l : Nat) (a : Act) (_ : World) : Nat := 2 * lenOf (a.tmps.getD 4 undef) + lenOf (a.tmps.getD 3 undef) + 2 * l

-- the walk
set_option maxRecDepth 100000 in
set_option maxHeartbeats 8000000 in
theorem shorten_ok {w : World} {b off cap n : Nat} {P : Nat → Pu} (h : Rd w (.slice (some ⟨b, off, none⟩) n cap) n P) (hn : n ≤ 60) (hcap : n ≤ cap) (hok : ∀ i, i < n → okP (P i) = true) :
    Calls Tryz.prog 38 #[.slice (some ⟨b, off, none⟩) n cap] w fun e w' => ∃ u, e = .returned u ∧ Below w.heap.size w w' ∧ Own w' u (short ((List.range n).map P)).length (fun i => (short ((List.range n).map P)).getD i noPu) w.heap.size w'.heap.size ∧ ∃ b' cap', u = .slice (some ⟨b', 0, none⟩) (short ((List.range n).map P)).length cap' ∧ (short ((List.range n).map P)).length ≤ cap' := by
  have H := Lib.hid h
  have HP := Lib.hid hok
  have HT := Lib.hid turned_agg
  have hmk := make_room n (by omega)
  obtain ⟨ti, ti1, z1, z2, z3⟩ := info_parts infoPulse
  clear h hok
  go_enter Tryz.func38, Tryz.ntmps38
  go_wp2_with fail
  refine scope_two (shJ w (.slice (some ⟨b, off, none⟩) n cap) b off n P (w.heap.size + 1)) shM (fun l a' w' hJ => shJ_only hJ) ?_ ?_ ?_
  · intro a' wr hJ
    obtain ⟨K, j, x, g, kc, rc, ad, U, rfl, hb, ho, ⟨hg1, hg2, hg3⟩, ⟨c0, c1, c2⟩, ⟨f0, f1, f2⟩, hj, hkok, hm⟩ := hJ
    have hm1 : okP x = true ∧ mach K (x :: todo n j P) = short ((List.range n).map P) := by
      rcases hm with ⟨h, _⟩ | ⟨_, h⟩
      · cases h
      · exact h
    clear hm
    refine ⟨_, rfl, ?_⟩
    have HO := Lib.hid ho
    have HB := Lib.hid hb
    have HK := Lib.hid hkok
    have HM := Lib.hid hm1
    have HJ := Lib.hid hj
    have hgg : w.heap.size ≤ g := (World.ownsRow.lt ho g rfl).1
    have hgl : g < wr.heap.size := (World.ownsRow.lt ho g rfl).2
    have HNP := Lib.hid (Eq.refl (w.heap.size + 1))
    generalize hnp : w.heap.size + 1 = np at *
    have HC := Lib.hid (And.intro c0 (And.intro c1 c2))
    have HF := Lib.hid (And.intro f0 (And.intro f1 f2))
    clear hb hkok hm1 ho hj hmk
    have hn60 : K.length + 1 ≤ 60 := by have := HJ.out.2.2.2; omega
    cases K with
    | nil =>
      simp only [List.length_nil]
      go_wp2_with fail
      go_quiet (fail)
      go_wp2_with fail
      go_quiet (fail)
      go_wp2_with (at_builtin; refine stop_list ?_)
      unfold Hid
      refine wpList_append_lies _ rfl _ _ 24 rfl w.heap.size 43 ti _ 3 24 Tryz.underlying24 ti1 z1 z2 z3 rfl (by decide) _ (0) _ rfl (by exact World.ownsRow.alloc HO.out _) ⟨wr.heap.size, 0, none⟩ 1 _ [.int .i64 x.ax, .int .i64 x.ha, .bool x.bk] rfl rfl (by exact news_at) (one_three (p := x)) (by omega) (by unfold maxLen; omega) (by omega) (by have := HB.out.size; simp; omega) (wr.heap.size + 1) (by simp) ?_
      intro g2 kc2 w3 hown hgrow hat hlt3
      obtain ⟨hB3, hnp3, hcell, hfz⟩ := push_facts (wr := wr) (g := g) ⟨hgrow.os, hgrow.tape, hgrow.output, hgrow.size, hgrow.block⟩ HB.out hgg hg1 hg3
      have hne2 : g2 ≠ np := by
        rcases hat with hat | hat
        · have he : some g = some g2 := hat
          injection he with he
          rw [← he]; exact hg1
        · rw [hat]; omega
      have HB3 := Lib.hid hB3
      have HO3 : Hid (w3.ownsRow w.heap.size 43 3 (.slice (some ⟨g2, 0, none⟩) ([x]).length kc2) ([x]).length (cellsL ([x]).reverse)) := Lib.hid (by
        have e : cellsL ([x]).reverse = cellsL ([x]).tail.reverse ++ [.int .i64 x.ax, .int .i64 x.ha, .bool x.bk] := by
          unfold cellsL
          simp
        rw [e]
        exact hown)
      have HC3 := Lib.hid (And.intro ((hcell 0).trans HC.out.1) (And.intro ((hcell 1).trans HC.out.2.1) ((hcell 2).trans HC.out.2.2)))
      have HF3 := Lib.hid (And.intro ((hfz 0).trans HF.out.1) (And.intro ((hfz 1).trans HF.out.2.1) ((hfz 2).trans HF.out.2.2)))
      clear hown hgrow hat hlt3 hcell hfz hB3
      go_wp2_with fail
      go_step3
      refine ⟨shJ_intro ([x]) j x (by simp) rfl HB3.out HO3.out ⟨hne2, hg2, hnp3⟩ HC3.out HF3.out ⟨HJ.out.1, HJ.out.2.1, HJ.out.2.2.1, by have := HJ.out.2.2.2; simp at this ⊢; omega⟩ ?_ (.inl ⟨rfl, ?_⟩), ?_⟩
      · intro y hy
        rcases List.mem_cons.1 hy with rfl | hy
        · exact HM.out.1
        · first | exact HK.out y hy | (simp at hy)
      · rw [← mach_first]; exact HM.out.2
      · simp [shM, lenOf] <;> omega
    | cons k K =>
      obtain ⟨d0, d1, d2⟩ := owns_last HO.out
      have hkc := owns_cap HO.out
      simp only [List.length_cons] at hkc
      have hkc1 : (K.length : Int) ≤ (kc : Int) := by omega
      have hkc2 : 0 < kc := by omega
      have hkc3 : ¬ kc = 0 := by omega
      simp only [List.length_cons] at hn60 ⊢
      have hl0 : (0 : Int) ≤ (K.length : Int) := by omega
      have hl1 : (K.length : Int) < (K.length : Int) + 1 := by omega
      have hkk : okP k = true := HK.out k (by simp)
      have HKK := Lib.hid hkk
      clear hkk
      have HE1 := eq_pulse x (inv k)
      have HE2 := eq_pulse x k
      unfold inv at HE1
      simp only at HE1
      by_cases e1 : x = inv k
      · rw [decide_eq_true (show x = ⟨k.ax, k.ha, !k.bk⟩ from e1)] at HE1
        have HX := Lib.hid e1
        clear e1 HE2
        go_wp2_with fail
        go_region_held3 (fun w' => (w'.cell? ⟨np, 0, none⟩ = some (.int .i64 x.ax) ∧ w'.cell? ⟨np, 1, none⟩ = some (.int .i64 x.ha) ∧ w'.cell? ⟨np, 2, none⟩ = some (.bool x.bk)) ∧ w'.cell? ⟨g, K.length * 3, none⟩ = some (.int .i64 k.ax) ∧ w'.cell? ⟨g, K.length * 3 + 1, none⟩ = some (.int .i64 k.ha) ∧ w'.cell? ⟨g, K.length * 3 + 2, none⟩ = some (.bool k.bk)) (first | go_keep | exact KP.out)
          ((first
            | (refine (HT.out k _).mono ?_; rintro e w2 ⟨rfl, hb2⟩; have hbw : Below wr.heap.size wr w2 := ⟨hb2.os, hb2.tape, hb2.output, hb2.size, hb2.block⟩; have KP := Lib.hid (And.intro (And.intro ((hbw.cell (p := ⟨np, 0, none⟩) hg3).trans c0) (And.intro ((hbw.cell (p := ⟨np, 1, none⟩) hg3).trans c1) ((hbw.cell (p := ⟨np, 2, none⟩) hg3).trans c2))) (And.intro ((hbw.cell (p := ⟨g, K.length * 3, none⟩) hgl).trans d0) (And.intro ((hbw.cell (p := ⟨g, K.length * 3 + 1, none⟩) hgl).trans d1) ((hbw.cell (p := ⟨g, K.length * 3 + 2, none⟩) hgl).trans d2)))); have HBW := Lib.hid hbw; clear hb2 hbw)))
        have HB2 := Lib.hid (HB.out.trans (HBW.out.mono HB.out.size))
        have HO2 := Lib.hid (owns_below HO.out HBW.out)
        have hz2 : np < w2.heap.size := Nat.lt_of_lt_of_le hg3 HBW.out.size
        have HF2 := Lib.hid (And.intro ((HBW.out.frozen (p := ⟨np, 0, none⟩) hg3).trans f0) (And.intro ((HBW.out.frozen (p := ⟨np, 1, none⟩) hg3).trans f1) ((HBW.out.frozen (p := ⟨np, 2, none⟩) hg3).trans f2)))
        obtain ⟨⟨c0', c1', c2'⟩, d0', d1', d2'⟩ := KP.out
        clear HE1
        go_wp2_with fail
        go_step3
        refine ⟨shJ_intro K j x rfl rfl HB2.out (owns_cut (xs := cellsL K.reverse) (ys := [.int .i64 k.ax, .int .i64 k.ha, .bool k.bk]) (by have := HO2.out; rw [cells_rev] at this; exact this) (by rw [cellsL_length]; simp)) ⟨hg1, hg2, hz2⟩ KP.out.1 HF2.out ⟨HJ.out.1, HJ.out.2.1, HJ.out.2.2.1, by have := HJ.out.2.2.2; simp at this ⊢; omega⟩ (fun y hy => HK.out y (List.mem_cons_of_mem _ hy)) (.inl ⟨rfl, ?_⟩), ?_⟩
        · have := HM.out.2
          rw [HX.out, mach_red _ _ (red_inv k).1, (red_inv k).2] at this
          exact this
        · simp [shM, lenOf] <;> omega
      · rw [decide_eq_false (show ¬ x = ⟨k.ax, k.ha, !k.bk⟩ from e1)] at HE1
        have HX := Lib.hid e1
        clear e1
        by_cases e2 : x = k ∧ 0 < x.ha
        · rw [decide_eq_true e2.1] at HE2
          have hpos := e2.2
          have HX2 := Lib.hid e2
          have h24 : x.ha ≤ 24 := by
            have := HM.out.1
            unfold okP at this
            simp at this
            omega
          clear e2
          go_wp2_with fail
          go_region_held3 (fun w' => (w'.cell? ⟨np, 0, none⟩ = some (.int .i64 x.ax) ∧ w'.cell? ⟨np, 1, none⟩ = some (.int .i64 x.ha) ∧ w'.cell? ⟨np, 2, none⟩ = some (.bool x.bk)) ∧ w'.cell? ⟨g, K.length * 3, none⟩ = some (.int .i64 k.ax) ∧ w'.cell? ⟨g, K.length * 3 + 1, none⟩ = some (.int .i64 k.ha) ∧ w'.cell? ⟨g, K.length * 3 + 2, none⟩ = some (.bool k.bk)) (first | go_keep | exact KP.out)
            ((first
              | (refine (HT.out k _).mono ?_; rintro e w2 ⟨rfl, hb2⟩; have hbw : Below wr.heap.size wr w2 := ⟨hb2.os, hb2.tape, hb2.output, hb2.size, hb2.block⟩; have KP := Lib.hid (And.intro (And.intro ((hbw.cell (p := ⟨np, 0, none⟩) hg3).trans c0) (And.intro ((hbw.cell (p := ⟨np, 1, none⟩) hg3).trans c1) ((hbw.cell (p := ⟨np, 2, none⟩) hg3).trans c2))) (And.intro ((hbw.cell (p := ⟨g, K.length * 3, none⟩) hgl).trans d0) (And.intro ((hbw.cell (p := ⟨g, K.length * 3 + 1, none⟩) hgl).trans d1) ((hbw.cell (p := ⟨g, K.length * 3 + 2, none⟩) hgl).trans d2)))); have HBW := Lib.hid hbw; clear hb2 hbw)))
          have HB2 := Lib.hid (HB.out.trans (HBW.out.mono HB.out.size))
          have HO2 := Lib.hid (owns_below HO.out HBW.out)
          have hz2 : np < w2.heap.size := Nat.lt_of_lt_of_le hg3 HBW.out.size
          have HF2 := Lib.hid (And.intro ((HBW.out.frozen (p := ⟨np, 0, none⟩) hg3).trans f0) (And.intro ((HBW.out.frozen (p := ⟨np, 1, none⟩) hg3).trans f1) ((HBW.out.frozen (p := ⟨np, 2, none⟩) hg3).trans f2)))
          obtain ⟨⟨c0', c1', c2'⟩, d0', d1', d2'⟩ := KP.out
          clear HE1
          obtain ⟨f0', f1', f2'⟩ := HF2.out
          go_wp2_with fail
          go_quiet (fail)
          go_wp2_with fail
          go_step3
          have HS := Lib.hid (owns_set (np := np) (i := 1) (v := .int .i64 (x.ha - 1)) (owns_cut (xs := cellsL K.reverse) (ys := [.int .i64 k.ax, .int .i64 k.ha, .bool k.bk]) (by have := HO2.out; rw [cells_rev] at this; exact this) (by rw [cellsL_length]; simp)) hg1)
          refine ⟨shJ_intro K j ⟨x.ax, x.ha - 1, x.bk⟩ rfl rfl (by exact Below.setCell (below_dn HB2.out _) (by omega) _) (by exact HS.out) ⟨hg1, hg2, by simp; omega⟩ (by exact set_mid KP.out.1) (by simp only [World.frozen?_setCell]; exact HF2.out) ⟨HJ.out.1, HJ.out.2.1, HJ.out.2.2.1, by have := HJ.out.2.2.2; simp at this ⊢; omega⟩ (fun y hy => HK.out y (List.mem_cons_of_mem _ hy)) (.inr ⟨rfl, ?_, ?_⟩), ?_⟩
          · have h1 := red_same (k := k) (by have := HX2.out; rw [this.1] at this; exact this.2)
            have h2 := okP_mrg HKK.out h1.1
            rw [h1.2] at h2
            have h3 := HX2.out.1
            rw [h3]
            exact h2 _ (by simp)
          · have := HM.out.2
            have h1 := red_same (k := k) (by have := HX2.out; rw [this.1] at this; exact this.2)
            rw [HX2.out.1, mach_red _ _ h1.1, h1.2] at this
            rw [HX2.out.1]
            exact this
          · simp [shM, lenOf] <;> omega
        · have HX2 := Lib.hid e2
          have hk9 : (¬ x = k) ∨ (x = k ∧ ¬ 0 < x.ha) := by
            by_cases e3 : x = k
            · exact .inr ⟨e3, fun h => e2 ⟨e3, h⟩⟩
            · exact .inl e3
          clear e2
          rcases hk9 with hk9 | ⟨hk9, hk8⟩
          · rw [decide_eq_false hk9] at HE2
            clear hk9
            go_wp2_with fail
            go_region_held3 (fun w' => (w'.cell? ⟨np, 0, none⟩ = some (.int .i64 x.ax) ∧ w'.cell? ⟨np, 1, none⟩ = some (.int .i64 x.ha) ∧ w'.cell? ⟨np, 2, none⟩ = some (.bool x.bk)) ∧ w'.cell? ⟨g, K.length * 3, none⟩ = some (.int .i64 k.ax) ∧ w'.cell? ⟨g, K.length * 3 + 1, none⟩ = some (.int .i64 k.ha) ∧ w'.cell? ⟨g, K.length * 3 + 2, none⟩ = some (.bool k.bk)) (first | go_keep | exact KP.out)
              ((first
                | (refine (HT.out k _).mono ?_; rintro e w2 ⟨rfl, hb2⟩; have hbw : Below wr.heap.size wr w2 := ⟨hb2.os, hb2.tape, hb2.output, hb2.size, hb2.block⟩; have KP := Lib.hid (And.intro (And.intro ((hbw.cell (p := ⟨np, 0, none⟩) hg3).trans c0) (And.intro ((hbw.cell (p := ⟨np, 1, none⟩) hg3).trans c1) ((hbw.cell (p := ⟨np, 2, none⟩) hg3).trans c2))) (And.intro ((hbw.cell (p := ⟨g, K.length * 3, none⟩) hgl).trans d0) (And.intro ((hbw.cell (p := ⟨g, K.length * 3 + 1, none⟩) hgl).trans d1) ((hbw.cell (p := ⟨g, K.length * 3 + 2, none⟩) hgl).trans d2)))); have HBW := Lib.hid hbw; clear hb2 hbw)))
            have HB2 := Lib.hid (HB.out.trans (HBW.out.mono HB.out.size))
            have HO2 := Lib.hid (owns_below HO.out HBW.out)
            have hz2 : np < w2.heap.size := Nat.lt_of_lt_of_le hg3 HBW.out.size
            have HF2 := Lib.hid (And.intro ((HBW.out.frozen (p := ⟨np, 0, none⟩) hg3).trans f0) (And.intro ((HBW.out.frozen (p := ⟨np, 1, none⟩) hg3).trans f1) ((HBW.out.frozen (p := ⟨np, 2, none⟩) hg3).trans f2)))
            obtain ⟨⟨c0', c1', c2'⟩, d0', d1', d2'⟩ := KP.out
            clear HE1
            go_wp2_with fail
            go_quiet (fail)
            go_wp2_with (at_builtin; refine stop_list ?_)
            unfold Hid
            refine wpList_append_lies _ rfl _ _ 24 rfl w.heap.size 43 ti _ 3 24 Tryz.underlying24 ti1 z1 z2 z3 rfl (by decide) _ (K.length + 1) _ rfl (by exact World.ownsRow.alloc HO2.out _) ⟨w2.heap.size, 0, none⟩ 1 _ [.int .i64 x.ax, .int .i64 x.ha, .bool x.bk] rfl rfl (by exact news_at) (one_three (p := x)) (by omega) (by unfold maxLen; omega) (by omega) (by have := HB2.out.size; simp; omega) (w2.heap.size + 1) (by simp) ?_
            intro g2 kc2 w3 hown hgrow hat hlt3
            obtain ⟨hB3, hnp3, hcell, hfz⟩ := push_facts (wr := w2) (g := g) ⟨hgrow.os, hgrow.tape, hgrow.output, hgrow.size, hgrow.block⟩ HB2.out hgg hg1 hz2
            have hne2 : g2 ≠ np := by
              rcases hat with hat | hat
              · have he : some g = some g2 := hat
                injection he with he
                rw [← he]; exact hg1
              · rw [hat]; omega
            have HB3 := Lib.hid hB3
            have HO3 : Hid (w3.ownsRow w.heap.size 43 3 (.slice (some ⟨g2, 0, none⟩) (x :: k :: K).length kc2) (x :: k :: K).length (cellsL (x :: k :: K).reverse)) := Lib.hid (by
              have e : cellsL (x :: k :: K).reverse = cellsL (x :: k :: K).tail.reverse ++ [.int .i64 x.ax, .int .i64 x.ha, .bool x.bk] := by
                unfold cellsL
                simp
              rw [e]
              exact hown)
            have HC3 := Lib.hid (And.intro ((hcell 0).trans KP.out.1.1) (And.intro ((hcell 1).trans KP.out.1.2.1) ((hcell 2).trans KP.out.1.2.2)))
            have HF3 := Lib.hid (And.intro ((hfz 0).trans HF2.out.1) (And.intro ((hfz 1).trans HF2.out.2.1) ((hfz 2).trans HF2.out.2.2)))
            clear hown hgrow hat hlt3 hcell hfz hB3
            go_wp2_with fail
            go_step3
            refine ⟨shJ_intro (x :: k :: K) j x (by simp) rfl HB3.out HO3.out ⟨hne2, hg2, hnp3⟩ HC3.out HF3.out ⟨HJ.out.1, HJ.out.2.1, HJ.out.2.2.1, by have := HJ.out.2.2.2; simp at this ⊢; omega⟩ ?_ (.inl ⟨rfl, ?_⟩), ?_⟩
            · intro y hy
              rcases List.mem_cons.1 hy with rfl | hy
              · exact HM.out.1
              · first | exact HK.out y hy | (simp at hy)
            · rw [← mach_keep K _ (red_else HKK.out HX.out HX2.out)]; exact HM.out.2
            · simp [shM, lenOf] <;> omega
          · rw [decide_eq_true hk9] at HE2
            have hk7 : decide (0 < x.ha) = false := decide_eq_false hk8
            clear hk9 hk8
            go_wp2_with fail
            go_region_held3 (fun w' => (w'.cell? ⟨np, 0, none⟩ = some (.int .i64 x.ax) ∧ w'.cell? ⟨np, 1, none⟩ = some (.int .i64 x.ha) ∧ w'.cell? ⟨np, 2, none⟩ = some (.bool x.bk)) ∧ w'.cell? ⟨g, K.length * 3, none⟩ = some (.int .i64 k.ax) ∧ w'.cell? ⟨g, K.length * 3 + 1, none⟩ = some (.int .i64 k.ha) ∧ w'.cell? ⟨g, K.length * 3 + 2, none⟩ = some (.bool k.bk)) (first | go_keep | exact KP.out)
              ((first
                | (refine (HT.out k _).mono ?_; rintro e w2 ⟨rfl, hb2⟩; have hbw : Below wr.heap.size wr w2 := ⟨hb2.os, hb2.tape, hb2.output, hb2.size, hb2.block⟩; have KP := Lib.hid (And.intro (And.intro ((hbw.cell (p := ⟨np, 0, none⟩) hg3).trans c0) (And.intro ((hbw.cell (p := ⟨np, 1, none⟩) hg3).trans c1) ((hbw.cell (p := ⟨np, 2, none⟩) hg3).trans c2))) (And.intro ((hbw.cell (p := ⟨g, K.length * 3, none⟩) hgl).trans d0) (And.intro ((hbw.cell (p := ⟨g, K.length * 3 + 1, none⟩) hgl).trans d1) ((hbw.cell (p := ⟨g, K.length * 3 + 2, none⟩) hgl).trans d2)))); have HBW := Lib.hid hbw; clear hb2 hbw)))
            have HB2 := Lib.hid (HB.out.trans (HBW.out.mono HB.out.size))
            have HO2 := Lib.hid (owns_below HO.out HBW.out)
            have hz2 : np < w2.heap.size := Nat.lt_of_lt_of_le hg3 HBW.out.size
            have HF2 := Lib.hid (And.intro ((HBW.out.frozen (p := ⟨np, 0, none⟩) hg3).trans f0) (And.intro ((HBW.out.frozen (p := ⟨np, 1, none⟩) hg3).trans f1) ((HBW.out.frozen (p := ⟨np, 2, none⟩) hg3).trans f2)))
            obtain ⟨⟨c0', c1', c2'⟩, d0', d1', d2'⟩ := KP.out
            clear HE1
            go_wp2_with fail
            go_quiet (fail)
            go_wp2_with (at_builtin; refine stop_list ?_)
            unfold Hid
            refine wpList_append_lies _ rfl _ _ 24 rfl w.heap.size 43 ti _ 3 24 Tryz.underlying24 ti1 z1 z2 z3 rfl (by decide) _ (K.length + 1) _ rfl (by exact World.ownsRow.alloc HO2.out _) ⟨w2.heap.size, 0, none⟩ 1 _ [.int .i64 x.ax, .int .i64 x.ha, .bool x.bk] rfl rfl (by exact news_at) (one_three (p := x)) (by omega) (by unfold maxLen; omega) (by omega) (by have := HB2.out.size; simp; omega) (w2.heap.size + 1) (by simp) ?_
            intro g2 kc2 w3 hown hgrow hat hlt3
            obtain ⟨hB3, hnp3, hcell, hfz⟩ := push_facts (wr := w2) (g := g) ⟨hgrow.os, hgrow.tape, hgrow.output, hgrow.size, hgrow.block⟩ HB2.out hgg hg1 hz2
            have hne2 : g2 ≠ np := by
              rcases hat with hat | hat
              · have he : some g = some g2 := hat
                injection he with he
                rw [← he]; exact hg1
              · rw [hat]; omega
            have HB3 := Lib.hid hB3
            have HO3 : Hid (w3.ownsRow w.heap.size 43 3 (.slice (some ⟨g2, 0, none⟩) (x :: k :: K).length kc2) (x :: k :: K).length (cellsL (x :: k :: K).reverse)) := Lib.hid (by
              have e : cellsL (x :: k :: K).reverse = cellsL (x :: k :: K).tail.reverse ++ [.int .i64 x.ax, .int .i64 x.ha, .bool x.bk] := by
                unfold cellsL
                simp
              rw [e]
              exact hown)
            have HC3 := Lib.hid (And.intro ((hcell 0).trans KP.out.1.1) (And.intro ((hcell 1).trans KP.out.1.2.1) ((hcell 2).trans KP.out.1.2.2)))
            have HF3 := Lib.hid (And.intro ((hfz 0).trans HF2.out.1) (And.intro ((hfz 1).trans HF2.out.2.1) ((hfz 2).trans HF2.out.2.2)))
            clear hown hgrow hat hlt3 hcell hfz hB3
            go_wp2_with fail
            go_step3
            refine ⟨shJ_intro (x :: k :: K) j x (by simp) rfl HB3.out HO3.out ⟨hne2, hg2, hnp3⟩ HC3.out HF3.out ⟨HJ.out.1, HJ.out.2.1, HJ.out.2.2.1, by have := HJ.out.2.2.2; simp at this ⊢; omega⟩ ?_ (.inl ⟨rfl, ?_⟩), ?_⟩
            · intro y hy
              rcases List.mem_cons.1 hy with rfl | hy
              · exact HM.out.1
              · first | exact HK.out y hy | (simp at hy)
            · rw [← mach_keep K _ (red_else HKK.out HX.out HX2.out)]; exact HM.out.2
            · simp [shM, lenOf] <;> omega
  · intro hmeet a' wr hJ
    obtain ⟨K, j, x, g, kc, rc, ad, U, rfl, hb, ho, ⟨hg1, hg2, hg3⟩, hc, hf, hj, hkok, hm⟩ := hJ
    have hm1 : mach K (todo n j P) = short ((List.range n).map P) := by
      rcases hm with ⟨_, h⟩ | ⟨h, _⟩
      · exact h
      · cases h
    clear hm
    refine ⟨_, rfl, ?_⟩
    have HO := Lib.hid ho
    have HB := Lib.hid hb
    have HK := Lib.hid hkok
    have HM := Lib.hid hm1
    have HJ := Lib.hid hj
    have HME := Lib.hid hmeet
    have hl2 := hb.size
    by_cases hlt : j < n
    · have had := hj.2.2.1 hlt
      subst had
      obtain ⟨_, _, hv, h⟩ := H.out
      injection hv with q1 _ q3
      subst q1 q3
      obtain ⟨b', off', q5, hl, hcc⟩ := h (by omega)
      injection q5 with q5
      injection q5 with q6 q7
      subst q6 q7
      obtain ⟨c0, c1, c2⟩ := hcc j hlt
      rw [← hb.cell (p := ⟨b, _, none⟩) hl] at c0 c1 c2
      obtain ⟨e0, e1, e2⟩ := hc
      obtain ⟨f0, f1, f2⟩ := hf
      have hz : ((n - j : Nat) : Int) ≠ 0 := by omega
      have hz1 : (1 : Int) ≤ ((n - j : Nat) : Int) := by omega
      have hz2 : ((n - j : Nat) : Int) ≤ (rc : Int) := by have := hj.2.1; omega
      have hz3 : (0 : Int) < ((n - j : Nat) : Int) := by omega
      have HLT := Lib.hid hlt
      have hrn : n - j - 1 = n - (j + 1) := by omega
      have hnb : ¬ (w.heap.size + 1 = b) := by omega
      clear hb ho hkok hm1 hj hmeet hcc h hmk hlt
      generalize hr : n - j = r at *
      go_wp2_with fail
      go_region
      all_goals
        go_wp2_with fail
        all_goals
          go_step3
          simp only [Exit.then]
          apply_assumption
          refine HME.out _ _ _ _ ?_ ?_ rfl
          · refine shJ_intro K (j + 1) (P j) rfl rfl ?_ ?_ ⟨hg1, hg2, by simp; omega⟩ ?_ ?_ ⟨by omega, by omega, fun h => by first | omega | (congr 2; omega), by have := HJ.out.2.2.2; omega⟩ HK.out (.inr ⟨rfl, HP.out j HLT.out, ?_⟩)
            · exact Below.drew (Below.setCell (Below.setCell (Below.setCell HB.out (by simp) _) (by simp) _) (by simp) _)
            · exact owns_set (owns_set (owns_set HO.out hg1) hg1) hg1
            · exact set_all _ _ _ ⟨e0, e1, e2⟩
            · simp [f0, f1, f2]
            · rw [← todo_next P HLT.out]; exact HM.out
          · simp [shM, lenOf] <;> omega
    · have hz : n - j = 0 := by omega
      have HS : Hid (short ((List.range n).map P) = K.reverse) := Lib.hid (by rw [← hm1, todo_end P (by omega), mach_nil])
      clear hb ho hkok hm1 hj hmeet hmk hlt
      rw [hz]
      go_wp2_with fail
      simp only [ways]
      go_ret
      refine ⟨_, rfl, HB.out, ?_, ?_⟩
      · rw [HS.out]
        exact own_same (owns_own HO.out (by simp)) (by simp)
      · rw [HS.out, List.length_reverse]
        exact ⟨_, _, rfl, owns_cap HO.out⟩
  · intro htake
    have hown0 : (w.alloc (.cells (madeCells #[.int .i64 0, .int .i64 0, .bool false] (n * 3)) 43)).ownsRow w.heap.size 43 3 (.slice (some ⟨w.heap.size, 0, none⟩) 0 n) 0 [] :=
      World.ownsRow_made w _ n (Nat.le_refl _) (by unfold maxLen; omega) (by rw [size_madeCells])
    go_wp2_with fail
    go_step3
    simp only [Exit.then]
    apply_assumption
    generalize madeCells #[Value.int .i64 0, .int .i64 0, .bool false] (n * 3) = cs at *
    refine htake _ _ _ ?_ rfl
    refine shJ_intro [] 0 noPu rfl rfl ((Below.alloc (Below.refl _ _) (Nat.le_refl _) _).alloc (by simp) _) (by exact hown0.alloc _) ⟨by simp, by simp, by simp⟩ ⟨by simp [go_sem, noPu], by simp [go_sem, noPu], by simp [go_sem, noPu]⟩ ⟨by simp [go_sem], by simp [go_sem], by simp [go_sem]⟩ ⟨by omega, by omega, fun _ => by simp, by simp⟩ (fun y hy => by cases hy) (.inl ⟨rfl, ?_⟩)
    unfold todo short
    simp
end Go.Proofs.YtojcdhnpdinbpaaGreatDoor
