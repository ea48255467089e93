/- Walks: one step of shortening, as the specification has it. -/
import Derived.Test.YtojcdhnpdinbpaaGreatDoorIw
import Derived.Test.YtojcdhnpdinbpaaGreatDoorSh
namespace Go.Proofs.YtojcdhnpdinbpaaGreatDoor
open Go.RowKit

theorem step_zero (a : Option Addr) (cap : Nat) (w : World) :
    Calls Tryz.prog 39 #[.slice a 0 cap] w fun e w' => e = .returned (.tuple #[.slice a 0 cap, .bool false]) ∧ w = w' := by
  go_enter Tryz.func39, Tryz.ntmps39
  go_wp2_with fail
  go_loopw [4] (fun i wr => i = .int .i64 0 ∧ w = wr) (fun _ _ => 0)
  case atStart => exact ⟨rfl, rfl⟩
  case round =>
    obtain ⟨rfl, rfl⟩ := hrel
    go_wp2_with fail
    go_ret2
    exact ⟨rfl, rfl⟩

theorem rd_take {w : World} {b off cap n k c : Nat} {P : Nat → Pu} (h : Rd w (.slice (some ⟨b, off, none⟩) n cap) n P) (hk : k ≤ n) : Rd w (.slice (some ⟨b, off, none⟩) k c) k P := by
  refine ⟨_, c, rfl, fun h0 => ?_⟩
  obtain ⟨a, cap', hv, h⟩ := h
  injection hv with q1 _ q3
  subst q1 q3
  obtain ⟨b', off', q5, hl, hc⟩ := h (by omega)
  exact ⟨b', off', q5, hl, fun i hi => hc i (by omega)⟩

theorem rd_drop {w : World} {b off cap n j c : Nat} {P : Nat → Pu} (h : Rd w (.slice (some ⟨b, off, none⟩) n cap) n P) (hj : j < n) : Rd w (.slice (some ⟨b, off + j * 3, none⟩) (n - j) c) (n - j) (fun i => P (j + i)) := by
  obtain ⟨a, cap', hv, h⟩ := h
  injection hv with q1 _ q3
  subst q1 q3
  obtain ⟨b', off', q5, hl, hc⟩ := h (by omega)
  injection q5 with q5
  injection q5 with q6 q7
  subst q6 q7
  refine ⟨_, c, rfl, fun _ => ⟨b, off + j * 3, rfl, hl, fun i hi => ?_⟩⟩
  have := hc (j + i) (by omega)
  rw [show off + (j + i) * 3 = off + j * 3 + i * 3 by omega] at this
  exact this

theorem range_cut (P : Nat → Pu) {n k : Nat} (hk : k + 2 ≤ n) : (List.range n).map P = (List.range k).map P ++ P k :: P (k + 1) :: (List.range (n - (k + 2))).map (fun i => P (k + 2 + i)) := by
  apply List.ext_getElem
  · simp; omega
  · intro i h1 h2
    simp only [List.getElem_map, List.getElem_range]
    by_cases a : i < k
    · rw [List.getElem_append_left (by simpa using a)]; simp
    · rw [List.getElem_append_right (by simp; omega)]
      simp only [List.length_map, List.length_range]
      rcases (show i = k ∨ i = k + 1 ∨ k + 2 ≤ i by omega) with rfl | rfl | c
      · simp
      · simp
      · obtain ⟨d, rfl⟩ : ∃ d, i = k + 2 + d := ⟨i - (k + 2), by omega⟩
        simp [show k + 2 + d - k = d + 1 + 1 by omega]

theorem irr_next {P : Nat → Pu} {k : Nat} (h : irr ((List.range (k + 1)).map P).reverse = true) (hr : red (P k) (P (k + 1)) = false) : irr ((List.range (k + 2)).map P).reverse = true := by
  have e : ((List.range (k + 2)).map P).reverse = P (k + 1) :: P k :: ((List.range k).map P).reverse := by
    rw [List.range_succ, List.range_succ]; simp
  have e2 : ((List.range (k + 1)).map P).reverse = P k :: ((List.range k).map P).reverse := by
    rw [List.range_succ]; simp
  rw [e2] at h
  rw [e]
  unfold irr
  rw [hr, h]
  rfl

theorem owns_wide {w : World} {base base' n size : Nat} {e : TypeId} {v : Value} {xs : List Value} (h : w.ownsRow base e size v n xs) (hb : base' ≤ base) : w.ownsRow base' e size v n xs := by
  obtain ⟨h1, ⟨rfl, rfl⟩ | ⟨g, cap, cur, rfl, hg, hk, hn, hm, hs, ht⟩⟩ := h
  · exact ⟨h1, .inl ⟨rfl, rfl⟩⟩
  · exact ⟨h1, .inr ⟨g, cap, cur, rfl, Nat.le_trans hb hg, hk, hn, hm, hs, ht⟩⟩

theorem shorter {P : Nat → Pu} {n k : Nat} {A Z : Pu} (hi : irr ((List.range (k + 1)).map P).reverse = true) (hk : k + 2 ≤ n) (hA : P k = A) (hZ : P (k + 1) = Z) (hr : red A Z = true) :
    short ((List.range n).map P) = short ((List.range k).map P ++ (mrg A Z ++ (List.range (n - (k + 2))).map fun i => P (k + 2 + i))) := by
  rw [range_cut P hk, hA, hZ]
  refine short_step ?_ hr
  have e : (List.range (k + 1)).map P = (List.range k).map P ++ [A] := by rw [List.range_succ, List.map_append, ← hA]; rfl
  rw [← e]
  exact hi

theorem all_ok {P : Nat → Pu} {n k : Nat} {A Z : Pu} (hk : k + 2 ≤ n) (hok : ∀ i, i < n → okP (P i) = true) (hA : P k = A) (hr : red A Z = true) :
    ∀ x ∈ (List.range k).map P ++ (mrg A Z ++ (List.range (n - (k + 2))).map fun i => P (k + 2 + i)), okP x = true := by
  intro x hx
  simp only [List.mem_append, List.mem_map, List.mem_range] at hx
  rcases hx with ⟨i, hi, rfl⟩ | hx | ⟨i, hi, rfl⟩
  · exact hok i (by omega)
  · exact okP_mrg (by rw [← hA]; exact hok k (by omega)) hr x hx
  · exact hok _ (by omega)

set_option maxRecDepth 100000 in
set_option maxHeartbeats 4000000 in
theorem step_ok {w : World} {b off cap n : Nat} {P : Nat → Pu} (h : Rd w (.slice (some ⟨b, off, none⟩) n cap) n P) (h1 : 1 ≤ n) (hn : n ≤ 60) (hcap : n ≤ cap) (hok : ∀ i, i < n → okP (P i) = true) :
    Calls Tryz.prog 39 #[.slice (some ⟨b, off, none⟩) n cap] w fun e w' => Below w.heap.size w w' ∧ ((e = .returned (.tuple #[.slice (some ⟨b, off, none⟩) n cap, .bool false]) ∧ short ((List.range n).map P) = (List.range n).map P) ∨
      ∃ v' L', e = .returned (.tuple #[v', .bool true]) ∧ w'.ownsRow w.heap.size 43 3 v' L'.length (cellsL L') ∧ short ((List.range n).map P) = short L' ∧ L'.length < n ∧ ∀ x ∈ L', okP x = true) := by
  have H := Lib.hid h
  have HOK := Lib.hid hok
  obtain ⟨ti, ti1, z1, z2, z3⟩ := info_parts infoPulse
  clear h hok
  go_enter Tryz.func39, Tryz.ntmps39
  go_wp2_with fail
  go_loopw [4] (fun i wr => ∃ k : Nat, i = .int .i64 k ∧ k + 1 ≤ n ∧ Below w.heap.size w wr ∧ irr ((List.range (k + 1)).map P).reverse = true) (fun i _ => n - (intOf i).toNat)
  case atStart => exact ⟨0, rfl, h1, Below.refl _ _, rfl⟩
  case round =>
    obtain ⟨k, rfl, hk, hb, hirr⟩ := hrel
    by_cases hlt : k + 1 < n
    · obtain ⟨_, _, hv, h⟩ := H.out
      injection hv with q1 _ q3
      subst q1 q3
      obtain ⟨b', off', q5, hl, hc⟩ := h (by omega)
      injection q5 with q5
      injection q5 with q6 q7
      subst q6 q7
      obtain ⟨c0, c1, c2⟩ := hc k (by omega)
      obtain ⟨d0, d1, d2⟩ := hc (k + 1) (by omega)
      rw [← hb.cell (p := ⟨b, _, none⟩) hl] at c0 c1 c2 d0 d1 d2
      have hsz := hb.size
      have hl2 : b < wr.heap.size := Nat.lt_of_lt_of_le hl hsz
      have hlt' : (k : Int) + 1 < (n : Int) := by omega
      have hlt2 : (k : Int) < (n : Int) := by omega
      have HB := Lib.hid hb
      have HI := Lib.hid hirr
      clear hc h hb hirr
      generalize hA : P k = A at *
      generalize hZ : P (k + 1) = Z at *
      have HN1 : Hid (News b off (cellsL ((List.range k).map P)) w) := Lib.hid (rd_news (rd_take (c := cap) H.out (by omega)))
      have HL1 : Hid ((cellsL ((List.range k).map P)).length = k * 3) := Lib.hid (by rw [cellsL_length]; simp)
      have HC1 : Hid (∀ u ∈ cellsL ((List.range k).map P), u.oneCell' = true) := Lib.hid (one_cells _)
      generalize hna : cellsL ((List.range k).map P) = na at HN1 HL1 HC1
      have HE1 := Lib.hid hna
      clear hna
      obtain ⟨ax, ha, bk⟩ := A
      obtain ⟨zx, za, zk⟩ := Z
      simp only at c0 c1 c2 d0 d1 d2
      by_cases go : red ⟨ax, ha, bk⟩ ⟨zx, za, zk⟩ = false
      · have HR := Lib.hid (irr_next HI.out (by rw [hA, hZ]; exact go))
        have hcases : ¬ ax = zx ∨ (ax = zx ∧ ¬ ha = za) ∨ (ax = zx ∧ ha = za ∧ bk = zk ∧ ha = 0) := by
          unfold red at go
          by_cases e1 : ax = zx
          · by_cases e2 : ha = za
            · subst e1 e2
              simp at go
              exact .inr (.inr ⟨rfl, rfl, go.1, go.2⟩)
            · exact .inr (.inl ⟨e1, e2⟩)
          · exact .inl e1
        clear go hA hZ
        rcases hcases with e1 | ⟨rfl, e2⟩ | ⟨rfl, rfl, rfl, rfl⟩
        all_goals
          go_wp2_with fail
          go_region
          all_goals
            go_wp2_with fail
            go_roundw
            case rel => exact ⟨k + 1, by go_num, by omega, ((HB.out.alloc hsz _).alloc (by simp; omega) _).drew, HR.out⟩
            case measure => simp [intOf]; omega
      · have go' : red ⟨ax, ha, bk⟩ ⟨zx, za, zk⟩ = true := by simpa using go
        have hcases : ax = zx ∧ ha = za ∧ (¬ bk = zk ∨ (bk = zk ∧ ¬ ha = 0)) := by
          unfold red at go'
          simp at go'
          exact ⟨go'.1, go'.2.1, by
            by_cases e : bk = zk
            · exact .inr ⟨e, by rcases go'.2.2 with g | g; exact absurd e g; exact g⟩
            · exact .inl e⟩
        obtain ⟨rfl, rfl, hbk⟩ := hcases
        have HN2 : Hid ((cap = k + 2 → News b off (cellsL ((List.range (n - (k + 2))).map fun i => P (k + 2 + i))) w) ∧ (¬ cap = k + 2 → News b (off + (k + 2) * 3) (cellsL ((List.range (n - (k + 2))).map fun i => P (k + 2 + i))) w)) := Lib.hid ⟨fun hce => by
            intro j u hj
            rw [show n - (k + 2) = 0 by omega] at hj
            simp [cellsL] at hj, fun hce => by
            by_cases hlast : k + 2 < n
            · exact rd_news (rd_drop (c := 0) H.out hlast)
            · intro j u hj
              rw [show n - (k + 2) = 0 by omega] at hj
              simp [cellsL] at hj⟩
        have HL2 : Hid ((cellsL ((List.range (n - (k + 2))).map fun i => P (k + 2 + i))).length = (n - (k + 2)) * 3) := Lib.hid (by rw [cellsL_length]; simp)
        have HC2 : Hid (∀ u ∈ cellsL ((List.range (n - (k + 2))).map fun i => P (k + 2 + i)), u.oneCell' = true) := Lib.hid (one_cells _)
        generalize hnb : cellsL ((List.range (n - (k + 2))).map fun i => P (k + 2 + i)) = nb at HN2 HL2 HC2
        have HE2 := Lib.hid hnb
        clear hnb
        have HG := Lib.hid go'
        have HA := Lib.hid hA
        have HZ := Lib.hid hZ
        clear go go' hA hZ
        rcases hbk with e3 | ⟨rfl, e4⟩
        · have e5 : (bk == zk) = false := by cases bk <;> cases zk <;> simp_all
          have e6 : decide (bk = zk) = false := decide_eq_false e3
          have e7 : decide (zk = bk) = false := decide_eq_false (fun h => e3 h.symm)
          go_wp2_with fail
          go_region
          all_goals
            first
              | ((obtain ⟨Wab, hW⟩ : ∃ W, W = ((wr.alloc (.cells #[.int .i64 ax, .int .i64 ha, .bool bk] 43)).alloc (.cells #[.int .i64 ax, .int .i64 ha, .bool zk] 43)).drew := ⟨_, rfl⟩; rw [← hW]; have p0 : Wab.cell? ⟨wr.heap.size, 0, none⟩ = some (.int .i64 ax) := (by rw [hW]; simp [go_sem]); have p1 : Wab.cell? ⟨wr.heap.size, 1, none⟩ = some (.int .i64 ha) := (by rw [hW]; simp [go_sem]); have p2 : Wab.cell? ⟨wr.heap.size, 2, none⟩ = some (.bool bk) := (by rw [hW]; simp [go_sem]); have q0 : Wab.cell? ⟨wr.heap.size + 1, 0, none⟩ = some (.int .i64 ax) := (by rw [hW]; simp [go_sem]); have q1 : Wab.cell? ⟨wr.heap.size + 1, 1, none⟩ = some (.int .i64 ha) := (by rw [hW]; simp [go_sem]); have q2 : Wab.cell? ⟨wr.heap.size + 1, 2, none⟩ = some (.bool zk) := (by rw [hW]; simp [go_sem]); have hbab : Below w.heap.size w Wab := (by rw [hW]; exact ((HB.out.alloc hsz _).alloc (by simp; omega) _).drew); have hsab : Wab.heap.size = wr.heap.size + 2 := (by rw [hW]; simp)); clear hW)
              | ((obtain ⟨Wab, hW⟩ : ∃ W, W = ((wr.alloc (.cells #[.int .i64 ax, .int .i64 ha, .bool zk] 43)).alloc (.cells #[.int .i64 ax, .int .i64 ha, .bool bk] 43)).drew := ⟨_, rfl⟩; rw [← hW]; have p0 : Wab.cell? ⟨wr.heap.size, 0, none⟩ = some (.int .i64 ax) := (by rw [hW]; simp [go_sem]); have p1 : Wab.cell? ⟨wr.heap.size, 1, none⟩ = some (.int .i64 ha) := (by rw [hW]; simp [go_sem]); have p2 : Wab.cell? ⟨wr.heap.size, 2, none⟩ = some (.bool zk) := (by rw [hW]; simp [go_sem]); have q0 : Wab.cell? ⟨wr.heap.size + 1, 0, none⟩ = some (.int .i64 ax) := (by rw [hW]; simp [go_sem]); have q1 : Wab.cell? ⟨wr.heap.size + 1, 1, none⟩ = some (.int .i64 ha) := (by rw [hW]; simp [go_sem]); have q2 : Wab.cell? ⟨wr.heap.size + 1, 2, none⟩ = some (.bool bk) := (by rw [hW]; simp [go_sem]); have hbab : Below w.heap.size w Wab := (by rw [hW]; exact ((HB.out.alloc hsz _).alloc (by simp; omega) _).drew); have hsab : Wab.heap.size = wr.heap.size + 2 := (by rw [hW]; simp)); clear hW)
            have HBab := Lib.hid hbab
            have hsab2 : w.heap.size ≤ Wab.heap.size := hbab.size
            have hla : wr.heap.size < Wab.heap.size := by omega
            have hlz : wr.heap.size + 1 < Wab.heap.size := by omega
            clear hbab hsab
            go_wp2_with (at_builtin; refine stop_list ?_)
            unfold Hid
            refine wpList_append_own_at _ rfl _ _ 24 rfl Wab.heap.size 43 ti _ 3 24 Tryz.underlying24 ti1 z1 z2 z3 rfl (by decide) _ (0) [] rfl (by exact World.ownsRow_made Wab #[] 0 (Nat.le_refl _) (Nat.zero_le _) rfl) ⟨b, off, none⟩ k _ na rfl HL1.out (HN1.out.kept (by exact Below.alloc_own HBab.out _)) HC1.out (by unfold maxLen; omega) (by omega) (by simp) ?_
            intro v1 w1 hown hgrow hnil hblk
            have HO1 := Lib.hid hown
            have hb1 : Below Wab.heap.size Wab w1 := Below.grown (by exact Below.alloc_own (Below.refl _ _) _) hgrow (by simp) (by intro g hg; exact Nat.le_of_eq (Option.some.inj hg))
            replace p0 := (hb1.cell (p := ⟨wr.heap.size, 0, none⟩) hla).trans p0
            replace p1 := (hb1.cell (p := ⟨wr.heap.size, 1, none⟩) hla).trans p1
            replace p2 := (hb1.cell (p := ⟨wr.heap.size, 2, none⟩) hla).trans p2
            replace q0 := (hb1.cell (p := ⟨wr.heap.size + 1, 0, none⟩) hlz).trans q0
            replace q1 := (hb1.cell (p := ⟨wr.heap.size + 1, 1, none⟩) hlz).trans q1
            replace q2 := (hb1.cell (p := ⟨wr.heap.size + 1, 2, none⟩) hlz).trans q2
            have hs1 := hb1.size
            have HB1 := Lib.hid hb1
            clear hown hgrow hnil hblk hb1
            go_wp2_with (at_builtin; refine stop_list ?_)
            all_goals
              unfold Hid
              first
                | refine wpList_append_own_at _ rfl _ _ 24 rfl Wab.heap.size 43 ti _ 3 24 Tryz.underlying24 ti1 z1 z2 z3 rfl (by decide) _ (0 + k) ([] ++ na) rfl HO1.out ⟨b, off, none⟩ (n - (k + 2)) _ nb rfl HL2.out ((HN2.out.1 (by assumption)).kept (by exact HBab.out.trans (HB1.out.mono hsab2))) HC2.out (by unfold maxLen; omega) (by omega) hs1 ?_
                | refine wpList_append_own_at _ rfl _ _ 24 rfl Wab.heap.size 43 ti _ 3 24 Tryz.underlying24 ti1 z1 z2 z3 rfl (by decide) _ (0 + k) ([] ++ na) rfl HO1.out ⟨b, off + (k + 2) * 3, none⟩ (n - (k + 2)) _ nb rfl HL2.out ((HN2.out.2 (by assumption)).kept (by exact HBab.out.trans (HB1.out.mono hsab2))) HC2.out (by unfold maxLen; omega) (by omega) hs1 ?_
              intro v2 w2 hown hgrow hnil hblk
              have HO2 := Lib.hid hown
              have HB2 := Lib.hid (Below.grown (a := w) (by exact HBab.out.trans (HB1.out.mono hsab2)) hgrow (Nat.le_trans hsab2 hs1) (by intro g hg; exact Nat.le_trans hsab2 (World.ownsRow.lt HO1.out g hg).1))
              clear hown hgrow hnil hblk
              go_wp2_with fail
              go_ret2
              refine ⟨HB2.out, .inr ⟨_, (List.range k).map P ++ (mrg ⟨ax, ha, bk⟩ ⟨ax, ha, zk⟩ ++ (List.range (n - (k + 2))).map fun i => P (k + 2 + i)), rfl, ?_, ?_, ?_, ?_⟩⟩
              · have ho := owns_wide HO2.out hsab2
                have e : cellsL ((List.range k).map P ++ (mrg ⟨ax, ha, bk⟩ ⟨ax, ha, zk⟩ ++ (List.range (n - (k + 2))).map fun i => P (k + 2 + i))) = [] ++ na ++ nb := by
                  rw [← HE1.out, ← HE2.out]
                  unfold mrg cellsL
                  rw [if_neg e3]
                  simp
                rw [e]
                have em : ((List.range k).map P ++ (mrg ⟨ax, ha, bk⟩ ⟨ax, ha, zk⟩ ++ (List.range (n - (k + 2))).map fun i => P (k + 2 + i))).length = 0 + k + (n - (k + 2)) := by
                  unfold mrg
                  rw [if_neg e3]
                  simp
                rw [em]
                exact ho
              · exact shorter HI.out (by omega) HA.out HZ.out HG.out
              · have := mrg_length ⟨ax, ha, bk⟩ ⟨ax, ha, zk⟩
                simp only [List.length_append, List.length_map, List.length_range]
                omega
              · exact all_ok (by omega) HOK.out HA.out HG.out
        · have hbd : 0 ≤ ha ∧ ha ≤ 24 := by
            have := HOK.out k (by omega)
            rw [HA.out] at this
            unfold okP at this
            simp at this
            omega
          have hb0 : (0 : Int) ≤ ha - 1 := by omega
          have hb24 : ha ≤ 24 := hbd.2
          clear hbd
          go_wp2_with fail
          go_region
          all_goals
            first
              | ((obtain ⟨Wab, hW⟩ : ∃ W, W = ((wr.alloc (.cells #[.int .i64 ax, .int .i64 ha, .bool bk] 43)).alloc (.cells #[.int .i64 ax, .int .i64 ha, .bool bk] 43)).drew := ⟨_, rfl⟩; rw [← hW]; have p0 : Wab.cell? ⟨wr.heap.size, 0, none⟩ = some (.int .i64 ax) := (by rw [hW]; simp [go_sem]); have p1 : Wab.cell? ⟨wr.heap.size, 1, none⟩ = some (.int .i64 ha) := (by rw [hW]; simp [go_sem]); have p2 : Wab.cell? ⟨wr.heap.size, 2, none⟩ = some (.bool bk) := (by rw [hW]; simp [go_sem]); have q0 : Wab.cell? ⟨wr.heap.size + 1, 0, none⟩ = some (.int .i64 ax) := (by rw [hW]; simp [go_sem]); have q1 : Wab.cell? ⟨wr.heap.size + 1, 1, none⟩ = some (.int .i64 ha) := (by rw [hW]; simp [go_sem]); have q2 : Wab.cell? ⟨wr.heap.size + 1, 2, none⟩ = some (.bool bk) := (by rw [hW]; simp [go_sem]); have hbab : Below w.heap.size w Wab := (by rw [hW]; exact ((HB.out.alloc hsz _).alloc (by simp; omega) _).drew); have hsab : Wab.heap.size = wr.heap.size + 2 := (by rw [hW]; simp)); clear hW)
              | ((obtain ⟨Wab, hW⟩ : ∃ W, W = ((wr.alloc (.cells #[.int .i64 ax, .int .i64 ha, .bool bk] 43)).alloc (.cells #[.int .i64 ax, .int .i64 ha, .bool bk] 43)).drew := ⟨_, rfl⟩; rw [← hW]; have p0 : Wab.cell? ⟨wr.heap.size, 0, none⟩ = some (.int .i64 ax) := (by rw [hW]; simp [go_sem]); have p1 : Wab.cell? ⟨wr.heap.size, 1, none⟩ = some (.int .i64 ha) := (by rw [hW]; simp [go_sem]); have p2 : Wab.cell? ⟨wr.heap.size, 2, none⟩ = some (.bool bk) := (by rw [hW]; simp [go_sem]); have q0 : Wab.cell? ⟨wr.heap.size + 1, 0, none⟩ = some (.int .i64 ax) := (by rw [hW]; simp [go_sem]); have q1 : Wab.cell? ⟨wr.heap.size + 1, 1, none⟩ = some (.int .i64 ha) := (by rw [hW]; simp [go_sem]); have q2 : Wab.cell? ⟨wr.heap.size + 1, 2, none⟩ = some (.bool bk) := (by rw [hW]; simp [go_sem]); have hbab : Below w.heap.size w Wab := (by rw [hW]; exact ((HB.out.alloc hsz _).alloc (by simp; omega) _).drew); have hsab : Wab.heap.size = wr.heap.size + 2 := (by rw [hW]; simp)); clear hW)
            have HBab := Lib.hid hbab
            have hsab2 : w.heap.size ≤ Wab.heap.size := hbab.size
            have hla : wr.heap.size < Wab.heap.size := by omega
            have hlz : wr.heap.size + 1 < Wab.heap.size := by omega
            clear hbab hsab
            go_wp2_with (at_builtin; refine stop_list ?_)
            unfold Hid
            refine wpList_append_own_at _ rfl _ _ 24 rfl Wab.heap.size 43 ti _ 3 24 Tryz.underlying24 ti1 z1 z2 z3 rfl (by decide) _ (0) [] rfl (by exact World.ownsRow_made Wab #[] 0 (Nat.le_refl _) (Nat.zero_le _) rfl) ⟨b, off, none⟩ k _ na rfl HL1.out (HN1.out.kept (by exact Below.alloc_own HBab.out _)) HC1.out (by unfold maxLen; omega) (by omega) (by simp) ?_
            intro v1 w1 hown hgrow hnil hblk
            have HO1 := Lib.hid hown
            have hb1 : Below Wab.heap.size Wab w1 := Below.grown (by exact Below.alloc_own (Below.refl _ _) _) hgrow (by simp) (by intro g hg; exact Nat.le_of_eq (Option.some.inj hg))
            replace p0 := (hb1.cell (p := ⟨wr.heap.size, 0, none⟩) hla).trans p0
            replace p1 := (hb1.cell (p := ⟨wr.heap.size, 1, none⟩) hla).trans p1
            replace p2 := (hb1.cell (p := ⟨wr.heap.size, 2, none⟩) hla).trans p2
            replace q0 := (hb1.cell (p := ⟨wr.heap.size + 1, 0, none⟩) hlz).trans q0
            replace q1 := (hb1.cell (p := ⟨wr.heap.size + 1, 1, none⟩) hlz).trans q1
            replace q2 := (hb1.cell (p := ⟨wr.heap.size + 1, 2, none⟩) hlz).trans q2
            have hs1 := hb1.size
            have HB1 := Lib.hid hb1
            clear hown hgrow hnil hblk hb1
            go_wp2_with (at_builtin; refine stop_list ?_)
            unfold Hid
            refine wpList_append_own_at _ rfl _ _ 24 rfl Wab.heap.size 43 ti _ 3 24 Tryz.underlying24 ti1 z1 z2 z3 rfl (by decide) _ (0 + k) ([] ++ na) rfl (by exact HO1.out.alloc _) ⟨w1.heap.size, 0, none⟩ 1 _ [.int .i64 ax, .int .i64 (ha - 1), .bool bk] rfl rfl (news_three (by simp [go_sem]) (by simp [go_sem]) (by simp [go_sem])) (one_three (p := ⟨ax, ha - 1, bk⟩)) (by unfold maxLen; omega) (by omega) (by simp; omega) ?_
            intro v1b w1b hown hgrow hnil hblk
            have HO1b := Lib.hid hown
            have hb1b : Below Wab.heap.size Wab w1b := Below.grown (by exact Below.alloc_own HB1.out _) hgrow (by simp; omega) (by intro g hg; exact (World.ownsRow.lt HO1.out g hg).1)
            have hs1b := hb1b.size
            have HB1b := Lib.hid hb1b
            clear hown hgrow hnil hblk hb1b
            go_wp2_with (at_builtin; refine stop_list ?_)
            all_goals
              unfold Hid
              first
                | refine wpList_append_own_at _ rfl _ _ 24 rfl Wab.heap.size 43 ti _ 3 24 Tryz.underlying24 ti1 z1 z2 z3 rfl (by decide) _ (0 + k + 1) _ rfl HO1b.out ⟨b, off, none⟩ (n - (k + 2)) _ nb rfl HL2.out ((HN2.out.1 (by assumption)).kept (by exact HBab.out.trans (HB1b.out.mono hsab2))) HC2.out (by unfold maxLen; omega) (by omega) hs1b ?_
                | refine wpList_append_own_at _ rfl _ _ 24 rfl Wab.heap.size 43 ti _ 3 24 Tryz.underlying24 ti1 z1 z2 z3 rfl (by decide) _ (0 + k + 1) _ rfl HO1b.out ⟨b, off + (k + 2) * 3, none⟩ (n - (k + 2)) _ nb rfl HL2.out ((HN2.out.2 (by assumption)).kept (by exact HBab.out.trans (HB1b.out.mono hsab2))) HC2.out (by unfold maxLen; omega) (by omega) hs1b ?_
              intro v2 w2 hown hgrow hnil hblk
              have HO2 := Lib.hid hown
              have HB2 := Lib.hid (Below.grown (a := w) (by exact HBab.out.trans (HB1b.out.mono hsab2)) hgrow (Nat.le_trans hsab2 hs1b) (by intro g hg; exact Nat.le_trans hsab2 (World.ownsRow.lt HO1b.out g hg).1))
              clear hown hgrow hnil hblk
              go_wp2_with fail
              go_ret2
              refine ⟨HB2.out, .inr ⟨_, (List.range k).map P ++ (mrg ⟨ax, ha, bk⟩ ⟨ax, ha, bk⟩ ++ (List.range (n - (k + 2))).map fun i => P (k + 2 + i)), rfl, ?_, ?_, ?_, ?_⟩⟩
              · have ho := owns_wide HO2.out hsab2
                have e : cellsL ((List.range k).map P ++ (mrg ⟨ax, ha, bk⟩ ⟨ax, ha, bk⟩ ++ (List.range (n - (k + 2))).map fun i => P (k + 2 + i))) = [] ++ na ++ [.int .i64 ax, .int .i64 (ha - 1), .bool bk] ++ nb := by
                  rw [← HE1.out, ← HE2.out]
                  unfold mrg cellsL
                  rw [if_pos rfl]
                  simp
                rw [e]
                have em : ((List.range k).map P ++ (mrg ⟨ax, ha, bk⟩ ⟨ax, ha, bk⟩ ++ (List.range (n - (k + 2))).map fun i => P (k + 2 + i))).length = 0 + k + 1 + (n - (k + 2)) := by
                  unfold mrg
                  rw [if_pos rfl]
                  simp; omega
                rw [em]
                exact ho
              · exact shorter HI.out (by omega) HA.out HZ.out HG.out
              · have := mrg_length ⟨ax, ha, bk⟩ ⟨ax, ha, bk⟩
                simp only [List.length_append, List.length_map, List.length_range]
                omega
              · exact all_ok (by omega) HOK.out HA.out HG.out
    · have he : k + 1 = n := by omega
      subst he
      have hlt' : ¬ ((k : Int) + 1 < ((k + 1 : Nat) : Int)) := by omega
      have HB := Lib.hid hb
      have HS := Lib.hid (short_stays (L := (List.range (k + 1)).map P) hirr)
      clear hb hirr
      go_wp2_with fail
      go_ret2
      exact ⟨HB.out, .inl ⟨rfl, by simpa [List.range_succ] using HS.out⟩⟩
end Go.Proofs.YtojcdhnpdinbpaaGreatDoor
