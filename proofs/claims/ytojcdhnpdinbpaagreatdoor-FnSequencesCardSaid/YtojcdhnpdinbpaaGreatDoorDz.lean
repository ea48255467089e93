/- Walks: lists of pulses are drawn. -/
import Derived.Test.YtojcdhnpdinbpaaGreatDoorDq
import Derived.Test.YtojcdhnpdinbpaaGreatDoorIw
import Derived.Deep.RegionWith
namespace Go.Proofs.YtojcdhnpdinbpaaGreatDoor
open Go.RowKit

theorem owns_only {w w' : World} {B base n size : Nat} {e : TypeId} {v : Value} {xs : List Value} (h : w.ownsRow base e size v n xs) (ho : Only B w w') (hB : B < base) : w'.ownsRow base e size v n xs := by
  obtain ⟨h1, ⟨rfl, rfl⟩ | ⟨g, cap, cur, rfl, hg, hk, hn, hm, hs, ht⟩⟩ := h
  · exact ⟨h1, .inl ⟨rfl, rfl⟩⟩
  · exact ⟨h1, .inr ⟨g, cap, cur, rfl, hg, (ho.2 g (by omega)).trans hk, hn, hm, hs, ht⟩⟩

/-- The cells of a pulse in a block of its own. -/
structure Cell3 (w : World) (b : Nat) (p : Pu) : Prop where
  r0 : w.cell? ⟨b, 0, none⟩ = some (.int .i64 p.ax)
  r1 : w.cell? ⟨b, 1, none⟩ = some (.int .i64 p.ha)
  r2 : w.cell? ⟨b, 2, none⟩ = some (.bool p.bk)
  f0 : w.frozen? ⟨b, 0, none⟩ = false
  f1 : w.frozen? ⟨b, 1, none⟩ = false
  f2 : w.frozen? ⟨b, 2, none⟩ = false
  lt : b < w.heap.size

theorem Cell3.new (w : World) (p : Pu) : Cell3 (w.alloc (.cells #[.int .i64 p.ax, .int .i64 p.ha, .bool p.bk] 43)) w.heap.size p :=
  ⟨by simp [go_sem], by simp [go_sem], by simp [go_sem], by simp [go_sem], by simp [go_sem], by simp [go_sem], by simp⟩
theorem Cell3.of_block {w w' : World} {b : Nat} {p : Pu} (h : Cell3 w b p) (e : w'.heap[b]? = w.heap[b]?) (hl : b < w'.heap.size) : Cell3 w' b p :=
  ⟨(World.cell?_of_block (a := ⟨b, 0, none⟩) e).trans h.r0, (World.cell?_of_block (a := ⟨b, 1, none⟩) e).trans h.r1, (World.cell?_of_block (a := ⟨b, 2, none⟩) e).trans h.r2,
   (World.frozen?_of_block (a := ⟨b, 0, none⟩) e).trans h.f0, (World.frozen?_of_block (a := ⟨b, 1, none⟩) e).trans h.f1, (World.frozen?_of_block (a := ⟨b, 2, none⟩) e).trans h.f2, hl⟩
theorem Cell3.only {w w' : World} {b B : Nat} {p : Pu} (h : Cell3 w b p) (ho : Only B w w') (hb : b ≠ B) : Cell3 w' b p := h.of_block (ho.2 b hb) (by rw [ho.1]; exact h.lt)
theorem Cell3.alloc {w : World} {b : Nat} {p : Pu} (h : Cell3 w b p) (o : Obj) : Cell3 (w.alloc o) b p :=
  h.of_block (((Below.refl w.heap.size w).alloc (Nat.le_refl _) o).block b h.lt) (by have := h.lt; simp; omega)

theorem cellsL_snoc (L : List Pu) (p : Pu) : cellsL (L ++ [p]) = cellsL L ++ [.int .i64 p.ax, .int .i64 p.ha, .bool p.bk] := by
  unfold cellsL
  rw [List.flatMap_append]
  rfl

theorem own_block_ge {w : World} {base n size : Nat} {e : TypeId} {v : Value} {xs : List Value} (h : w.ownsRow base e size v n xs) {g : Nat} (hg : v.ownBlock = some g) : base ≤ g := (World.ownsRow.lt h g hg).1

theorem Src.grown {W0 : World} {c : Value} {len B : Nat} {w w' : World} {row : Option Nat} (h : Src W0 c len B w) (hg : w.grownBy w' row) (hne : some B ≠ row) (hrow : ∀ k, k < W0.heap.size → some k ≠ row) : Src W0 c len B w' := by
  obtain ⟨a, b, d, e, ⟨i, g, f1, f2, f3, f4⟩, f5, f6⟩ := h
  have hb := hg.block B d hne
  refine ⟨⟨hg.os.trans a.os, hg.tape.trans a.tape, hg.output.trans a.output, Nat.le_trans a.size hg.size, fun k hk => (hg.block k (Nat.lt_of_lt_of_le hk a.size) (hrow k hk)).trans (a.block k hk)⟩, b, Nat.lt_of_lt_of_le d hg.size, ?_, ⟨i, g, ?_, ?_, f3, f4⟩, ?_, ?_⟩
  · exact (World.cell?_of_block (a := ⟨B, 0, none⟩) hb).trans e
  · exact (World.cell?_of_block (a := ⟨B, 1, none⟩) hb).trans f1
  · exact (World.cell?_of_block (a := ⟨B, 2, none⟩) hb).trans f2
  · exact (World.frozen?_of_block (a := ⟨B, 1, none⟩) hb).trans f5
  · exact (World.frozen?_of_block (a := ⟨B, 2, none⟩) hb).trans f6

theorem Src.put {W0 : World} {c : Value} {len B : Nat} {w : World} (h : Src W0 c len B w) {pb : Nat} (hp : pb ≠ B) (hW : W0.heap.size ≤ pb) (i : Nat) (v : Value) : Src W0 c len B (w.setCell ⟨pb, i, none⟩ v) := by
  obtain ⟨a, b, d, e, ⟨k, g, f1, f2, f3, f4⟩, f5, f6⟩ := h
  refine ⟨a.setCell hW v, b, by simpa [World.setCell] using d, ?_, ⟨k, g, ?_, ?_, f3, f4⟩, ?_, ?_⟩
  · rw [World.cell?_setCell_other (h := by simp [hp])]; exact e
  · rw [World.cell?_setCell_other (h := by simp [hp])]; exact f1
  · rw [World.cell?_setCell_other (h := by simp [hp])]; exact f2
  · rw [World.frozen?_setCell]; exact f5
  · rw [World.frozen?_setCell]; exact f6

theorem Cell3.put3 {w : World} {b : Nat} {p : Pu} (h : Cell3 w b p) (q : Pu) : Cell3 (((w.setCell ⟨b, 0, none⟩ (.int .i64 q.ax)).setCell ⟨b, 1, none⟩ (.int .i64 q.ha)).setCell ⟨b, 2, none⟩ (.bool q.bk)) b q := by
  obtain ⟨r0, r1, r2, f0, f1, f2, hz⟩ := h
  exact ⟨by simp [go_sem, r0, r1, r2], by simp [go_sem, r0, r1, r2], by simp [go_sem, r0, r1, r2], by simp [go_sem, f0], by simp [go_sem, f1], by simp [go_sem, f2], by simpa using hz⟩

theorem owns_put {w : World} {base n size g np i : Nat} {e : TypeId} {kc : Nat} {xs : List Value} {v : Value} (h : w.ownsRow base e size (.slice (some ⟨g, 0, none⟩) n kc) n xs) (hne : g ≠ np) : (w.setCell ⟨np, i, none⟩ v).ownsRow base e size (.slice (some ⟨g, 0, none⟩) n kc) n xs := by
  obtain ⟨h1, ⟨h2, _⟩ | ⟨g', cap, cur, hv, hg, hb, hn, hm, hs, ht⟩⟩ := h
  · cases h2
  · injection hv with q1 _ q3
    injection q1 with q1
    injection q1 with q1
    subst q1 q3
    exact ⟨h1, .inr ⟨_, _, cur, rfl, hg, (Below.heap_setCell w ⟨np, i, none⟩ v g hne).trans hb, hn, hm, hs, ht⟩⟩

/-- The last pulse of a list of the call's own. -/
theorem owns_tail {w : World} {base g kc m : Nat} {L : List Pu} {q : Pu} (h : w.ownsRow base 43 3 (.slice (some ⟨g, 0, none⟩) (m + 1) kc) (m + 1) (cellsL (L ++ [q]))) (hm : L.length = m) :
    w.cell? ⟨g, m * 3, none⟩ = some (.int .i64 q.ax) ∧ w.cell? ⟨g, m * 3 + 1, none⟩ = some (.int .i64 q.ha) ∧ w.cell? ⟨g, m * 3 + 2, none⟩ = some (.bool q.bk) := by
  have hc := World.ownsRow.cells h (g := g) rfl
  have hl : (cellsL L).length = m * 3 := by rw [cellsL_length, hm]
  have plain : ∀ i, (⟨g, 0, none⟩ : Addr).add i = ⟨g, i, none⟩ := fun i => by
    unfold Addr.add
    split <;> simp_all
  rw [cellsL_snoc] at hc
  have get : ∀ i u, ([.int .i64 q.ax, .int .i64 q.ha, .bool q.bk] : List Value)[i]? = some u → (cellsL L ++ [.int .i64 q.ax, .int .i64 q.ha, .bool q.bk])[m * 3 + i]? = some u := fun i u hu => by
    rw [List.getElem?_append_right (by omega), hl, show m * 3 + i - m * 3 = i by omega]; exact hu
  refine ⟨?_, ?_, ?_⟩
  · have := hc (m * 3 + 0) _ (get 0 _ rfl); rw [plain] at this; exact this
  · have := hc (m * 3 + 1) _ (get 1 _ rfl); rw [plain] at this; exact this
  · have := hc (m * 3 + 2) _ (get 2 _ rfl); rw [plain] at this; exact this

theorem pick_three (W0 : World) (c : Value) (len B : Nat) (w : World) (hcode : Code W0 c len) (hlen : (len : Int) ≤ 4096) (hs : Src W0 c len B w) {x y z : Int} (hx : 0 ≤ x ∧ x ≤ 24) (hy : 0 ≤ y ∧ y ≤ 24) (hz : 0 ≤ z ∧ z ≤ 24) (Lb : Nat) (hL : Lb = w.heap.size) :
    Calls Tryz.prog 45 #[.pointer (some ⟨B, 0, none⟩), .slice (some ⟨Lb, 0, none⟩) 3 3] (w.alloc (.cells #[.int .i64 x, .int .i64 y, .int .i64 z] 2)) (PickPost W0 c len B (fun v => 0 ≤ v ∧ v ≤ 24) (w.alloc (.cells #[.int .i64 x, .int .i64 y, .int .i64 z] 2))) := by
  subst hL
  have hl := hs.lies
  refine pick_any W0 c len B _ w.heap.size 3 _ hcode hlen (hs.alloc _) (by omega) (by omega) (by omega) ?_
  intro j j0 j1
  have hj : j = 0 ∨ j = 1 ∨ j = 2 := by omega
  rcases hj with rfl | rfl | rfl
  · exact ⟨x, by simp [go_sem], hx⟩
  · exact ⟨y, by simp [go_sem], hy⟩
  · exact ⟨z, by simp [go_sem], hz⟩

def DrawPost (W0 : World) (c : Value) (len B : Nat) (most : Nat) (e : Ending) (w' : World) : Prop := ∃ v L, e = .returned v ∧ L.length ≤ most ∧ w'.ownsRow (B + 1) 43 3 v L.length (cellsL L) ∧ (∀ p ∈ L, okP p = true) ∧ v ≠ .slice none 0 0 ∧ Src W0 c len B w'

set_option maxRecDepth 100000 in
set_option maxHeartbeats 1000000 in
theorem l05Draw_any (W0 : World) (c : Value) (len B : Nat) (most : Nat) (w : World) (hcode : Code W0 c len) (hlen : (len : Int) ≤ 4096) (hs : Src W0 c len B w) (hmost : most ≤ 60) :
    Calls Tryz.prog 41 #[.pointer (some ⟨B, 0, none⟩), .int .i64 (most : Int)] w (DrawPost W0 c len B most) := by
  have HN := Lib.hid (fun n w hs h1 h2 => next_any W0 c len B n w hcode hlen hs h1 h2)
  have HPk := Lib.hid (fun w hs x y z hx hy hz Lb hL => pick_three W0 c len B w hcode hlen hs (x := x) (y := y) (z := z) hx hy hz Lb hL)
  have HS := Lib.hid hs
  have HC := Lib.hid hcode
  have hw : IntKind.i64.wrap ((most : Int) + 1) = (most : Int) + 1 := by rw [IntKind.wrap_i64]; omega
  obtain ⟨ti, ti1, z1, z2, z3⟩ := info_parts infoPulse
  clear hs hcode
  go_enter Tryz.func41, Tryz.ntmps41
  go_wp2_with fail
  refine (HN.out _ _ (HS.out.alloc _) (by omega) (by omega)).mono ?_
  rintro e w1 ⟨x, rfl, hx0, hx1, hs1, ho1⟩
  have HS1 := Lib.hid hs1
  have HO1 := Lib.hid ho1
  clear hs1 ho1
  go_wp2_with fail
  have hBw := HS.out.lies
  have hown0 : w1.ownsRow (B + 1) 43 3 (.slice (some ⟨w.heap.size, 0, none⟩) 0 0) 0 (cellsL []) :=
    owns_only (World.ownsRow_made w #[] 0 (by omega) (by unfold maxLen; omega) rfl) HO1.out (by omega)
  have HO0 := Lib.hid hown0
  clear hown0 HO1 HS
  go_loopw [5, 6] (fun v' i wr => ∃ (j m : Nat) (L : List Pu), i = .int .i64 j ∧ m + j ≤ most ∧ Hid (L.length = m) ∧ wr.ownsRow (B + 1) 43 3 v' m (cellsL L) ∧ Hid (∀ p ∈ L, okP p = true) ∧ v' ≠ .slice none 0 0 ∧ Src W0 c len B wr) (fun _ i _ => (intOf i).toNat)
  case atStart => exact ⟨x.toNat, 0, [], congrArg (Value.int .i64) (by omega), by omega, Lib.hid rfl, HO0.out, Lib.hid (fun p hp => absurd hp (by simp)), by simp, HS1.out⟩
  case round =>
    obtain ⟨j, m, L, rfl, hj, hm, hown, hok, hnn, hs⟩ := hrel
    by_cases hlt : 0 < j
    · have hlt' : (0 : Int) < (j : Int) := by omega
      obtain ⟨g, kc, rfl, hkc⟩ := owns_some hown hnn
      have hW0B := hs.own
      have HO := Lib.hid hown
      have hlies := hs.lies
      have HSr := Lib.hid hs
      have hgB : B + 1 ≤ g := (World.ownsRow.lt hown g rfl).1
      have hgw : g < wr.heap.size := (World.ownsRow.lt hown g rfl).2
      clear hown hs hnn HO0 HS1
      go_wp2_with fail
      refine (HN.out _ _ HSr.out (by omega) (by omega)).mono ?_
      rintro e w2 ⟨a, rfl, ha0, ha1, hs2, ho2⟩
      have HS2 := Lib.hid hs2
      have HO2 := Lib.hid (owns_only HO.out ho2 (by omega))
      clear hs2 ho2
      go_wp2_with fail
      refine (HN.out _ _ HS2.out (by omega) (by omega)).mono ?_
      rintro e w3 ⟨h1, rfl, p0, p1, hs3, ho3⟩
      have HS3 := Lib.hid hs3
      have HO3 := Lib.hid (owns_only HO2.out ho3 (by omega))
      clear hs3 ho3
      go_wp2_with fail
      refine (HN.out _ _ HS3.out (by omega) (by omega)).mono ?_
      rintro e w4 ⟨h2, rfl, q0, q1, hs4, ho4⟩
      have HS4 := Lib.hid hs4
      have HO4 := Lib.hid (owns_only HO3.out ho4 (by omega))
      clear hs4 ho4
      go_wp2_with fail
      refine (HN.out _ _ HS4.out (by omega) (by omega)).mono ?_
      rintro e w5 ⟨h3, rfl, r0, r1, hs5, ho5⟩
      have HS5 := Lib.hid hs5
      have HO5 := Lib.hid (owns_only HO4.out ho5 (by omega))
      clear hs5 ho5
      go_wp2_with fail
      refine (HPk.out w5 HS5.out h1 h2 h3 ⟨by omega, by omega⟩ ⟨by omega, by omega⟩ ⟨by omega, by omega⟩ w5.heap.size rfl).mono ?_
      rintro e w6 ⟨y, rfl, ⟨y0, y1⟩, hs6, ho6⟩
      have HS6 := Lib.hid hs6
      have HO6 := Lib.hid (owns_only (HO5.out.alloc _) ho6 (by omega))
      clear hs6 ho6
      go_wp2_with fail
      refine (HN.out _ _ HS6.out (by omega) (by omega)).mono ?_
      rintro e w7 ⟨s, rfl, s0, s1, hs7, ho7⟩
      have HS7 := Lib.hid hs7
      have HO7 := Lib.hid (owns_only HO6.out ho7 (by omega))
      clear hs7 ho7
      -- the choice
      have HOK := Lib.hid hok.out
      have HM := Lib.hid hm.out
      have HPN := Lib.hid (show okP ⟨a, y, s == 0⟩ = true by unfold okP; simp only [Bool.and_eq_true, decide_eq_true_eq]; omega)
      have hl7 := HS7.out.lies
      clear hok hm
      cases m with
      | zero =>
        go_wp2_with (at_builtin; refine stop_list ?_)
        unfold Hid
        refine wpList_append_own_at _ rfl _ _ 24 rfl (B + 1) 43 ti _ 3 24 Tryz.underlying24 ti1 z1 z2 z3 rfl (by decide) _ (0) _ rfl (by exact (HO7.out.alloc _).alloc _) ⟨w7.heap.size + 1, 0, none⟩ 1 1 [.int .i64 (a), .int .i64 (y), .bool (s == 0)] (by simp [go_sem]) rfl (news_three (by simp [go_sem]) (by simp [go_sem]) (by simp [go_sem])) (one_three (p := ⟨a, y, s == 0⟩)) (by unfold maxLen; omega) (by omega) (by simp; omega) ?_
        intro v3 w9 hown hgrow hnil hblk
        have HOf := Lib.hid hown
        have HSf := Lib.hid (Src.grown (by exact (HS7.out.alloc _).alloc _) hgrow (fun e => by have e2 : some B = some g := e; have := Option.some.inj e2; omega) (fun k hk e => by have e2 : some k = some g := e; have := Option.some.inj e2; omega))
        have HNf := Lib.hid (show v3 ≠ .slice none 0 0 from fun h => by have h2 : Value.slice (some ⟨g, 0, none⟩) (0) kc = .slice none 0 0 := (hnil.1 h).1; cases h2)
        clear hown hgrow hnil hblk
        go_wp2_with fail
        go_roundw
        case rel =>
          refine ⟨j - 1, 0 + 1, L ++ [⟨a, y, s == 0⟩], congrArg (Value.int .i64) (by omega), by omega, Lib.hid (by rw [List.length_append, HM.out]; rfl), ?_, Lib.hid (fun p hp => ?_), HNf.out, HSf.out⟩
          · rw [cellsL_snoc]
            exact HOf.out
          · rcases List.mem_append.1 hp with hp | hp
            · exact HOK.out p hp
            · rw [List.mem_singleton] at hp; rw [hp]; exact HPN.out
        case measure => simp [intOf]; omega
      | succ m =>
        obtain ⟨L', q, hLq, hLl⟩ : ∃ (L' : List Pu) (q : Pu), L = L' ++ [q] ∧ L'.length = m := by
          rcases List.eq_nil_or_concat L with h | ⟨L', q, h⟩
          · have := HM.out; rw [h] at this; simp at this
          · rw [List.concat_eq_append] at h
            exact ⟨L', q, h, by have := HM.out; rw [h] at this; simpa using this⟩
        have HQ := Lib.hid (HOK.out q (by rw [hLq]; simp))
        have HLq := Lib.hid hLq
        have HLl := Lib.hid hLl
        clear hLq hLl
        go_wp2_with fail
        refine (HN.out _ _ (HS7.out.alloc _) (by omega) (by omega)).mono ?_
        rintro e w8 ⟨u, rfl, u0, u1, hs8, ho8⟩
        have HS8 := Lib.hid hs8
        have HO8 := Lib.hid (owns_only (HO7.out.alloc _) ho8 (by omega))
        have HC8 := Lib.hid (((Cell3.new w7 ⟨a, y, s == 0⟩).only ho8 (by have := HS7.out.lies; omega)))
        have hl8 := HS8.out.lies
        have hg7 : g < w7.heap.size := (World.ownsRow.lt HO7.out g rfl).2
        clear hs8 ho8
        by_cases hu : u = 0
        · have hu2 : (u == 0) = true := by rw [hu]; rfl
          have HO9 := Lib.hid HO8.out
          have ho9 := HO8.out
          rw [HLq.out] at ho9
          obtain ⟨q0, q1, q2⟩ := owns_tail ho9 HLl.out
          obtain ⟨r0, r1, r2, f0, f1, f2, hlt8⟩ := HC8.out
          clear ho9
          have HS9 := Lib.hid ((((HS8.out.put (pb := w7.heap.size) (by omega) (by omega) 0 (.int .i64 q.ax)).put (pb := w7.heap.size) (by omega) (by omega) 1 (.int .i64 q.ha)).put (pb := w7.heap.size) (by omega) (by omega) 2 (.bool q.bk)))
          have HOn := Lib.hid (owns_put (owns_put (owns_put HO8.out (np := w7.heap.size) (i := 0) (v := .int .i64 q.ax) (by omega)) (np := w7.heap.size) (i := 1) (v := .int .i64 q.ha) (by omega)) (np := w7.heap.size) (i := 2) (v := .bool q.bk) (by omega))
          have HC9 := Lib.hid (HC8.out.put3 q)
          clear HO9
          go_wp2_with fail
          refine (HN.out _ _ HS9.out (by omega) (by omega)).mono ?_
          rintro e wa ⟨z, rfl, zz0, zz1, hsa, hoa⟩
          have HSa := Lib.hid hsa
          have HOa := Lib.hid (owns_only HOn.out hoa (by omega))
          have HCa := Lib.hid (HC9.out.only hoa (by omega))
          have hla := hsa.lies
          obtain ⟨r0, r1, r2, f0, f1, f2, hlta⟩ := HCa.out
          clear hsa hoa q0 q1 q2
          by_cases hz : z = 0
          · have hz2 : (z == 0) = true := by rw [hz]; rfl
            have HPF := Lib.hid (show okP ⟨q.ax, q.ha, !q.bk⟩ = true from HQ.out)
            go_wp2_with (at_builtin; refine stop_list ?_)
            unfold Hid
            refine wpList_append_own_at _ rfl _ _ 24 rfl (B + 1) 43 ti _ 3 24 Tryz.underlying24 ti1 z1 z2 z3 rfl (by decide) _ (m + 1) _ rfl (by exact (owns_put HOa.out (np := w7.heap.size) (i := 2) (v := .bool (!q.bk)) (by omega)).alloc _) ⟨wa.heap.size, 0, none⟩ 1 1 [.int .i64 (q.ax), .int .i64 (q.ha), .bool (!q.bk)] (by simp [go_sem]) rfl (news_three (by simp [go_sem]) (by simp [go_sem]) (by simp [go_sem])) (one_three (p := ⟨q.ax, q.ha, !q.bk⟩)) (by unfold maxLen; omega) (by omega) (by simp; omega) ?_
            intro v3 w9 hown hgrow hnil hblk
            have HOf := Lib.hid hown
            have HSf := Lib.hid (Src.grown (by exact (HSa.out.put (pb := w7.heap.size) (by omega) (by omega) 2 (.bool (!q.bk))).alloc _) hgrow (fun e => by have e2 : some B = some g := e; have := Option.some.inj e2; omega) (fun k hk e => by have e2 : some k = some g := e; have := Option.some.inj e2; omega))
            have HNf := Lib.hid (show v3 ≠ .slice none 0 0 from fun h => by have h2 : Value.slice (some ⟨g, 0, none⟩) (m + 1) kc = .slice none 0 0 := (hnil.1 h).1; cases h2)
            clear hown hgrow hnil hblk
            go_wp2_with fail
            go_roundw
            case rel =>
              refine ⟨j - 1, m + 1 + 1, L ++ [⟨q.ax, q.ha, !q.bk⟩], congrArg (Value.int .i64) (by omega), by omega, Lib.hid (by rw [List.length_append, HM.out]; rfl), ?_, Lib.hid (fun p hp => ?_), HNf.out, HSf.out⟩
              · rw [cellsL_snoc]
                exact HOf.out
              · rcases List.mem_append.1 hp with hp | hp
                · exact HOK.out p hp
                · rw [List.mem_singleton] at hp; rw [hp]; exact HPF.out
            case measure => simp [intOf]; omega
          · have hz2 : (z == 0) = false := by rw [beq_eq_false_iff_ne]; exact hz
            go_wp2_with (at_builtin; refine stop_list ?_)
            unfold Hid
            refine wpList_append_own_at _ rfl _ _ 24 rfl (B + 1) 43 ti _ 3 24 Tryz.underlying24 ti1 z1 z2 z3 rfl (by decide) _ (m + 1) _ rfl (by exact HOa.out.alloc _) ⟨wa.heap.size, 0, none⟩ 1 1 [.int .i64 (q.ax), .int .i64 (q.ha), .bool (q.bk)] (by simp [go_sem]) rfl (news_three (by simp [go_sem]) (by simp [go_sem]) (by simp [go_sem])) (one_three (p := ⟨q.ax, q.ha, q.bk⟩)) (by unfold maxLen; omega) (by omega) (by simp; omega) ?_
            intro v3 w9 hown hgrow hnil hblk
            have HOf := Lib.hid hown
            have HSf := Lib.hid (Src.grown (by exact HSa.out.alloc _) hgrow (fun e => by have e2 : some B = some g := e; have := Option.some.inj e2; omega) (fun k hk e => by have e2 : some k = some g := e; have := Option.some.inj e2; omega))
            have HNf := Lib.hid (show v3 ≠ .slice none 0 0 from fun h => by have h2 : Value.slice (some ⟨g, 0, none⟩) (m + 1) kc = .slice none 0 0 := (hnil.1 h).1; cases h2)
            clear hown hgrow hnil hblk
            go_wp2_with fail
            go_roundw
            case rel =>
              refine ⟨j - 1, m + 1 + 1, L ++ [⟨q.ax, q.ha, q.bk⟩], congrArg (Value.int .i64) (by omega), by omega, Lib.hid (by rw [List.length_append, HM.out]; rfl), ?_, Lib.hid (fun p hp => ?_), HNf.out, HSf.out⟩
              · rw [cellsL_snoc]
                exact HOf.out
              · rcases List.mem_append.1 hp with hp | hp
                · exact HOK.out p hp
                · rw [List.mem_singleton] at hp; rw [hp]; exact HQ.out
            case measure => simp [intOf]; omega
        · have hu2 : (u == 0) = false := by rw [beq_eq_false_iff_ne]; exact hu
          obtain ⟨r0, r1, r2, f0, f1, f2, hlt8⟩ := HC8.out
          go_wp2_with (at_builtin; refine stop_list ?_)
          unfold Hid
          refine wpList_append_own_at _ rfl _ _ 24 rfl (B + 1) 43 ti _ 3 24 Tryz.underlying24 ti1 z1 z2 z3 rfl (by decide) _ (m + 1) _ rfl (by exact HO8.out.alloc _) ⟨w8.heap.size, 0, none⟩ 1 1 [.int .i64 (a), .int .i64 (y), .bool (s == 0)] (by simp [go_sem]) rfl (news_three (by simp [go_sem]) (by simp [go_sem]) (by simp [go_sem])) (one_three (p := ⟨a, y, s == 0⟩)) (by unfold maxLen; omega) (by omega) (by simp; omega) ?_
          intro v3 w9 hown hgrow hnil hblk
          have HOf := Lib.hid hown
          have HSf := Lib.hid (Src.grown (by exact HS8.out.alloc _) hgrow (fun e => by have e2 : some B = some g := e; have := Option.some.inj e2; omega) (fun k hk e => by have e2 : some k = some g := e; have := Option.some.inj e2; omega))
          have HNf := Lib.hid (show v3 ≠ .slice none 0 0 from fun h => by have h2 : Value.slice (some ⟨g, 0, none⟩) (m + 1) kc = .slice none 0 0 := (hnil.1 h).1; cases h2)
          clear hown hgrow hnil hblk
          go_wp2_with fail
          go_roundw
          case rel =>
            refine ⟨j - 1, m + 1 + 1, L ++ [⟨a, y, s == 0⟩], congrArg (Value.int .i64) (by omega), by omega, Lib.hid (by rw [List.length_append, HM.out]; rfl), ?_, Lib.hid (fun p hp => ?_), HNf.out, HSf.out⟩
            · rw [cellsL_snoc]
              exact HOf.out
            · rcases List.mem_append.1 hp with hp | hp
              · exact HOK.out p hp
              · rw [List.mem_singleton] at hp; rw [hp]; exact HPN.out
          case measure => simp [intOf]; omega
    · have hj0 : j = 0 := by omega
      subst hj0
      have hlt' : ¬ (0 : Int) < ((0 : Nat) : Int) := by omega
      have HO := Lib.hid hown
      have HSr := Lib.hid hs
      have HNN := Lib.hid hnn
      clear hown hs hnn HO0 HS1
      go_wp2_with fail
      go_ret
      refine ⟨_, L, rfl, by have := hm.out; omega, ?_, hok.out, HNN.out, HSr.out⟩
      rw [hm.out]
      exact HO.out
end Go.Proofs.YtojcdhnpdinbpaaGreatDoor
