/- Walks: parsePulse of the program. -/
import Derived.Test.YtojcdhnpdinbpaaGreatDoorRp
namespace Go.Proofs.YtojcdhnpdinbpaaGreatDoor
open Go.RowKit

def pulseRes (o : Option Pu) : Value := .tuple #[(o.getD noPu).v, .int .i64 (if o.isSome then 0 else 6)]

theorem same_bytes (l : List UInt8) (s : ByteArray) : (l == s.toList) = decide (l = s.data.toList) := by
  rw [ByteArray.toList_eq, Bool.eq_iff_iff, beq_iff_eq, decide_eq_true_eq]

theorem below_new2 {w w5 : World} {o : Obj} (h : Below (w.alloc o).heap.size (w.alloc o) w5) : Below w.heap.size w w5 :=
  ((Below.refl w.heap.size w).alloc (Nat.le_refl _) o).trans (h.mono (by simp))

theorem below_step_own {w w' : World} (h : Below w.heap.size w w') (o : Obj) : Below w.heap.size w (w'.alloc o) := h.alloc h.size _
theorem text_is {t : ByteArray} {l : List UInt8} (h : t.data.toList = l) : t = ⟨l.toArray⟩ := by
  subst h; rfl

/-- The result's cells, not yet written. -/
structure Res (w : World) (B : Nat) : Prop where
  r0 : w.cell? ⟨B, 0, none⟩ = some (.int .i64 0)
  r1 : w.cell? ⟨B, 1, none⟩ = some (.int .i64 0)
  r2 : w.cell? ⟨B, 2, none⟩ = some (.bool false)
  f0 : w.frozen? ⟨B, 0, none⟩ = false
  f1 : w.frozen? ⟨B, 1, none⟩ = false
  f2 : w.frozen? ⟨B, 2, none⟩ = false
  lt : B < w.heap.size

theorem Res.below {w w' : World} {B : Nat} (h : Res w B) (hb : Below w.heap.size w w') : Res w' B :=
  ⟨(hb.cell (p := ⟨B, 0, none⟩) h.lt).trans h.r0, (hb.cell (p := ⟨B, 1, none⟩) h.lt).trans h.r1, (hb.cell (p := ⟨B, 2, none⟩) h.lt).trans h.r2,
   (hb.frozen (p := ⟨B, 0, none⟩) h.lt).trans h.f0, (hb.frozen (p := ⟨B, 1, none⟩) h.lt).trans h.f1, (hb.frozen (p := ⟨B, 2, none⟩) h.lt).trans h.f2, Nat.lt_of_lt_of_le h.lt hb.size⟩

theorem Res.zero {w : World} {B : Nat} (h : Res w B) : Res (((w.setCell ⟨B, 0, none⟩ (.int .i64 0)).setCell ⟨B, 1, none⟩ (.int .i64 0)).setCell ⟨B, 2, none⟩ (.bool false)) B := by
  obtain ⟨r0, r1, r2, f0, f1, f2, hz⟩ := h
  exact ⟨by simp [go_sem, r0, r1, r2], by simp [go_sem, r0, r1, r2], by simp [go_sem, r0, r1, r2], by simp [go_sem, f0], by simp [go_sem, f1], by simp [go_sem, f2], by simpa using hz⟩

theorem Res.new (w : World) : Res (w.alloc (.cells #[.int .i64 0, .int .i64 0, .bool false] 43)) w.heap.size :=
  ⟨by simp [go_sem], by simp [go_sem], by simp [go_sem], by simp [go_sem], by simp [go_sem], by simp [go_sem], by simp⟩

theorem Res.of_new {w w' : World} (h : Below (w.alloc (.cells #[.int .i64 0, .int .i64 0, .bool false] 43)).heap.size (w.alloc (.cells #[.int .i64 0, .int .i64 0, .bool false] 43)) w') : Res w' w.heap.size := (Res.new w).below h

set_option maxRecDepth 100000 in
set_option maxHeartbeats 4000000 in
theorem parsePulse_any (q : ByteArray) (hmax : q.size ≤ 4294967000) (w : World) (hV : ErrVars w) :
    Calls Tryz.prog 35 #[.string q] w fun e w' => e = .returned (pulseRes (pread q.data.toList)) ∧ Below w.heap.size w w' := by
  obtain ⟨bk, r, hq, hb⟩ := sgn_split q.data.toList
  have HC := Lib.hid (fun w => cut_sgn q bk r hq hb w)
  have hlen : q.data.toList.length = q.size := (Lib.size_eq q).symm
  have hrl : r.length ≤ q.size := by
    rw [← hlen, hq]; unfold wsgn; rw [List.length_append]; omega
  cases r with
  | nil =>
    have hres : pread q.data.toList = none := by rw [hq, pread_srd hb]; rfl
    rw [hres]
    unfold pulseRes noPu Pu.v
    clear hq hb hlen hrl hres hmax hV
    go_enter Tryz.func35, Tryz.ntmps35
    go_wp2_with fail
    refine (HC.out _).mono ?_
    rintro e w1 ⟨rfl, rfl⟩
    go_wp2_with fail
    refine bodyPost_ret (v := .tuple #[.agg #[.int .i64 0, .int .i64 0, .bool false], .int .i64 6]) (by simp [results, Tryz.results35, go_sem]) rfl ⟨rfl, ?_⟩
    all_goals repeat first
      | exact Below.refl _ _
      | refine Below.setCell ?_ ?_ _
      | refine Below.alloc ?_ ?_ _
    all_goals first | omega | (simp; done) | (simp; omega)
  | cons c d =>
    obtain ⟨s, hs, hsd, hss⟩ := bytes_of (c :: d)
    rw [show Value.string ⟨(c :: d).toArray⟩ = .string s from hs] at HC
    obtain ⟨hp, hc0⟩ := head_at hsd
    obtain ⟨u, hud, hus, hsl⟩ := tail_one hsd
    have hne : (s.toList == ([] : List UInt8)) = false := by rw [ByteArray.toList_eq, hsd, beq_eq_false_iff_ne]; simp
    have hne2 : s.toList.isEmpty = false := by rw [ByteArray.toList_eq, hsd]; rfl
    have hp0 : (0 : Int) < (s.size : Int) := by omega
    have HX := Lib.hid (fun w => index_axis c w)
    have HV := Lib.hid hV
    have hu1 : u.size ≤ 4294967000 := by rw [hus]; simp only [List.length_cons] at hrl; omega
    have HI := Lib.hid (fun w hV => parseInt_any u hu1 w hV)
    rw [hud] at HI
    have HQ := Lib.hid hq
    have HBk := Lib.hid hb
    clear hs hsd hss hud hus hu1 hlen hrl hq hb hV hmax
    go_enter Tryz.func35, Tryz.ntmps35
    go_wp2_with fail
    refine (HC.out _).mono ?_
    rintro e w1 ⟨rfl, rfl⟩
    go_wp2_with fail
    refine (HX.out _).mono ?_
    rintro e w1 ⟨rfl, rfl⟩
    go_wp2_with fail
    have hV1 : ErrVars (w.alloc (Obj.cells #[Value.int .i64 0, Value.int .i64 0, Value.bool false] 43)) := HV.out.below ((Below.refl _ _).alloc (Nat.le_refl _) _)
    refine (HI.out _ hV1).mono ?_
    rintro e w1 ⟨⟨x, v, rfl, hv⟩, hb1⟩
    have hR1 : Res w1 w.heap.size := Res.of_new hb1
    have HB1 : Hid (Below w.heap.size w w1) := Lib.hid (below_new2 hb1)
    clear hb1 hV1
    rcases hv with ⟨rfl, hx⟩ | ⟨⟨te, pe, rfl⟩, hx⟩
    · have hpr := pread_prog HBk.out hx ⟨Lib.indexByte [120, 121, 122] c, x, bk⟩ rfl
      rw [← HQ.out] at hpr
      have HP := Lib.hid hpr
      generalize Lib.indexByte [120, 121, 122] c = ax at *
      have HIs := Lib.hid (fun w => isPulse_any ⟨ax, x, bk⟩ w)
      unfold Pu.v at HIs
      have HR1 := Lib.hid hR1
      clear hpr hx hR1
      cases hok : okP ⟨ax, x, bk⟩
      · rw [hok] at HIs
        have HRes : Hid (pread q.data.toList = none) := Lib.hid (by rw [HP.out, hok, if_neg]; simp)
        go_wp2_with fail
        refine (HIs.out _).mono ?_
        rintro e w2 ⟨rfl, hb2⟩
        have HB2 : Hid (Below w1.heap.size w1 w2) := Lib.hid (below_new2 hb2)
        obtain ⟨r0, r1, r2, f0, f1, f2, hz⟩ := HR1.out.below HB2.out
        clear hb2
        go_wp2_with fail
        refine bodyPost_ret (v := .tuple #[.agg #[.int .i64 0, .int .i64 0, .bool false], .int .i64 6]) (by simp [results, Tryz.results35, go_sem, r0, r1, r2]) rfl ⟨by rw [HRes.out]; rfl, ?_⟩
        have h12 := HB1.out.trans (HB2.out.mono HB1.out.size)
        first
          | exact h12
          | exact ((h12.setCell (Nat.le_refl _) _).setCell (Nat.le_refl _) _).setCell (Nat.le_refl _) _
      · rw [hok] at HIs
        have HTx := Lib.hid (fun w => text_any ⟨ax, x, bk⟩ hok w)
        unfold Pu.v at HTx
        go_wp2_with fail
        refine (HIs.out _).mono ?_
        rintro e w2 ⟨rfl, hb2⟩
        have HB2 : Hid (Below w1.heap.size w1 w2) := Lib.hid (below_new2 hb2)
        have HR2 := Lib.hid (HR1.out.below HB2.out)
        have p0 : w2.cell? ⟨w1.heap.size, 0, none⟩ = some (.int .i64 ax) := (hb2.cell (p := ⟨w1.heap.size, 0, none⟩) (by simp)).trans (by simp [go_sem])
        have p1 : w2.cell? ⟨w1.heap.size, 1, none⟩ = some (.int .i64 x) := (hb2.cell (p := ⟨w1.heap.size, 1, none⟩) (by simp)).trans (by simp [go_sem])
        have p2 : w2.cell? ⟨w1.heap.size, 2, none⟩ = some (.bool bk) := (hb2.cell (p := ⟨w1.heap.size, 2, none⟩) (by simp)).trans (by simp [go_sem])
        have hz2 : w1.heap.size < w2.heap.size := by have := hb2.size; simp at this; omega
        clear hb2
        go_wp2_with fail
        refine (HTx.out _).mono ?_
        rintro e w3 ⟨t, rfl, htd, hb3⟩
        have hcmp := same_bytes t.data.toList q
        rw [htd] at hcmp
        rw [text_is htd]
        obtain ⟨r0, r1, r2, f0, f1, f2, hz⟩ := HR2.out.below hb3
        have q0 := (hb3.cell (p := ⟨w1.heap.size, 0, none⟩) hz2).trans p0
        have q1 := (hb3.cell (p := ⟨w1.heap.size, 1, none⟩) hz2).trans p1
        have q2 := (hb3.cell (p := ⟨w1.heap.size, 2, none⟩) hz2).trans p2
        have h13 : Below w.heap.size w w3 := (HB1.out.trans (HB2.out.mono HB1.out.size)).trans (hb3.mono (Nat.le_trans HB1.out.size HB2.out.size))
        have H13 := Lib.hid h13
        clear hb3 htd h13 p0 p1 p2
        by_cases heq : ptext ⟨ax, x, bk⟩ = q.data.toList
        · rw [decide_eq_true heq] at hcmp
          have HRes : Hid (pread q.data.toList = some ⟨ax, x, bk⟩) := Lib.hid (by rw [HP.out, if_pos ⟨hok, heq⟩])
          clear heq
          go_wp2_with fail
          refine bodyPost_ret (v := .tuple #[.agg #[.int .i64 ax, .int .i64 x, .bool bk], .int .i64 0]) ?_ rfl ⟨by rw [HRes.out]; rfl, ?_⟩
          · simp [results, Tryz.results35, go_sem, r0, r1, r2, f0, f1, f2]
          · exact ((H13.out.setCell (Nat.le_refl _) _).setCell (Nat.le_refl _) _).setCell (Nat.le_refl _) _
        · rw [decide_eq_false heq] at hcmp
          have HRes : Hid (pread q.data.toList = none) := Lib.hid (by rw [HP.out, if_neg (fun h => heq h.2)])
          clear heq
          go_wp2_with fail
          refine bodyPost_ret (v := .tuple #[.agg #[.int .i64 0, .int .i64 0, .bool false], .int .i64 6]) (by simp [results, Tryz.results35, go_sem, r0, r1, r2]) rfl ⟨by rw [HRes.out]; rfl, ?_⟩
          first
            | exact H13.out
            | exact ((H13.out.setCell (Nat.le_refl _) _).setCell (Nat.le_refl _) _).setCell (Nat.le_refl _) _
    · have hpr := pread_fail HBk.out hx
      rw [← HQ.out] at hpr
      have HRes := Lib.hid hpr
      obtain ⟨r0, r1, r2, f0, f1, f2, hz⟩ := hR1
      clear hpr hx
      have HZ := Lib.hid (Res.zero (w := w1) ⟨r0, r1, r2, f0, f1, f2, hz⟩)
      go_wp2_with fail
      refine bodyPost_ret (v := .tuple #[.agg #[.int .i64 0, .int .i64 0, .bool false], .int .i64 6]) ?_ rfl ⟨by rw [HRes.out]; rfl, ?_⟩
      · obtain ⟨g0, g1, g2, _⟩ := HZ.out.below ((Below.refl _ _).alloc (Nat.le_refl _) (.cells #[.int .i64 (Lib.indexByte [120, 121, 122] c), .int .i64 x, .bool bk] 43))
        simp [results, Tryz.results35, go_sem, g0, g1, g2]
      exact below_step_own (((HB1.out.setCell (Nat.le_refl _) _).setCell (Nat.le_refl _) _).setCell (Nat.le_refl _) _) _
end Go.Proofs.YtojcdhnpdinbpaaGreatDoor
