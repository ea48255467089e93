/- Walks: the loops that halve. Walks: a number in a range. Walks: HalvedTurn of the program and of the specification. Tables that are the same but for the signs of zeros; the tables of pulses. -/
import Derived.Test.YtaghfffbhgpalaaKas
import Derived.Test.YtaghfffbhgpalaaRows
import Derived.Test.YtaghfffbhgpalaaKaw
import Derived.Test.YtaghfffbhgpalaaDk
import Derived.Test.YtaghfffbhgpalaaRq
import Derived.WalkKit
import Derived.WalkSpells
import Derived.WalkLawsBesides
namespace Go.Proofs.Ytaghfffbhgpalaa
open Go.RowKit

theorem step_facts (k : Nat) (h : k < 24) :
    (∀ t w, (binOp .add t (.float .f32 1065353216) (.float .f32 (halved k).1)).run Try.prog w = .ok (.float .f32 (upW (halved k).1)) w) ∧
    (∀ t w, (binOp .quo t (.float .f32 (upW (halved k).1)) (.float .f32 1073741824)).run Try.prog w = .ok (.float .f32 (halfW (halved k).1)) w) ∧
    posW (halfW (halved k).1) = true ∧
    (∀ t w, (binOp .mul t (.float .f32 1073741824) (.float .f32 (halved (k + 1)).1)).run Try.prog w = .ok (.float .f32 (twiceW (halved (k + 1)).1)) w) ∧
    (∀ t w, (binOp .quo t (.float .f32 (halved k).2) (.float .f32 (twiceW (halved (k + 1)).1))).run Try.prog w = .ok (.float .f32 (halved (k + 1)).2) w) := by
  have h := step_of k h
  unfold stepOk at h
  simp only [Bool.and_eq_true, beq_iff_eq] at h
  obtain ⟨⟨⟨⟨h1, h2⟩, h3⟩, h4⟩, h5⟩ := h
  exact ⟨fun t w => run_float_arith w .add t .f32 _ _ _ h1, fun t w => run_float_arith w .quo t .f32 _ _ _ h2, h3, fun t w => run_float_arith w .mul t .f32 _ _ _ h4, fun t w => run_float_arith w .quo t .f32 _ _ _ h5⟩

theorem root_eq (k : Nat) : rootW (halfW (halved k).1) = (halved (k + 1)).1 := rfl

end Go.Proofs.Ytaghfffbhgpalaa

namespace Go.Proofs.Ytaghfffbhgpalaa
open Go.RowKit

theorem in_any (i a b : Int) (w : World) :
    Calls Try.prog 17 #[.int .i64 i, .int .i64 a, .int .i64 b] w fun e w' => e = .returned (.bool (decide (a ≤ i ∧ i ≤ b))) ∧ w = w' := by
  by_cases h1 : a ≤ i
  · by_cases h2 : i ≤ b
    · have hd : decide (a ≤ i ∧ i ≤ b) = true := decide_eq_true ⟨h1, h2⟩
      rw [hd]
      clear hd
      go_enter Try.func17, Try.ntmps17
      go_wp2
      go_ret
      exact ⟨rfl, rfl⟩
    · have hd : decide (a ≤ i ∧ i ≤ b) = false := decide_eq_false (fun h => h2 h.2)
      rw [hd]
      clear hd
      have h2' : decide (i ≤ b) = false := decide_eq_false h2
      clear h2
      go_enter Try.func17, Try.ntmps17
      go_wp2
      go_ret
      exact ⟨rfl, rfl⟩
  · have hd : decide (a ≤ i ∧ i ≤ b) = false := decide_eq_false (fun h => h1 h.1)
    rw [hd]
    have h1' : i < a := by omega
    clear hd h1
    go_enter Try.func17, Try.ntmps17
    go_wp2
    go_ret
    exact ⟨rfl, rfl⟩

end Go.Proofs.Ytaghfffbhgpalaa

namespace Go.Proofs.Ytaghfffbhgpalaa
open Go.RowKit

/-- The turn about an axis. -/
def aboutOf (i : Int) (c s : Nat) : Value := if i = 0 then tableOf c s 0 0 else if i = 1 then tableOf c 0 s 0 else tableOf c 0 0 s

def halfRes (i k : Int) : Value := if (0 ≤ i ∧ i ≤ 2) ∧ (0 ≤ k ∧ k ≤ 24) then .tuple #[aboutOf i (halved k.toNat).1 (halved k.toNat).2, .int .i64 0] else .tuple #[noTable, .int .i64 2]

end Go.Proofs.Ytaghfffbhgpalaa

namespace Go.Proofs.Ytaghfffbhgpalaa
open Go.RowKit

def EqC (z w : Cx) : Prop := Eqv z.re w.re ∧ Eqv z.im w.im
def EqT (s t : Tb) : Prop := EqC s.a t.a ∧ EqC s.b t.b ∧ EqC s.c t.c ∧ EqC s.d t.d

theorem eqv_refl {x : Nat} (h : x < 4294967296) : Eqv x x := ⟨h, h, .inl rfl⟩

theorem bd_eqv {k : Int} {x y : Nat} (h : Eqv x y) (hx : Bd k x) : Bd k y := ⟨h.2.1, by rw [← eqv_mag h]; exact hx.2⟩

theorem cb_eqv {k : Int} {z w : Cx} (h : EqC z w) (hz : CB k z) : CB k w := ⟨bd_eqv h.1 hz.1, bd_eqv h.2 hz.2⟩

theorem tb_eqv {k : Int} {s t : Tb} (h : EqT s t) (hs : TB k s) : TB k t := ⟨cb_eqv h.1 hs.1, cb_eqv h.2.1 hs.2.1, cb_eqv h.2.2.1 hs.2.2.1, cb_eqv h.2.2.2 hs.2.2.2⟩

theorem eqc_refl {k : Int} {z : Cx} (h : CB k z) : EqC z z := ⟨eqv_refl h.1.1, eqv_refl h.2.1⟩

theorem eqt_refl {k : Int} {t : Tb} (h : TB k t) : EqT t t := ⟨eqc_refl h.1, eqc_refl h.2.1, eqc_refl h.2.2.1, eqc_refl h.2.2.2⟩

theorem neg_eqv {x y : Nat} (h : Eqv x y) : Eqv (Op.negFloat .f32 x) (Op.negFloat .f32 y) := by
  obtain ⟨a, b, c⟩ := h
  have m1 := mag_neg x a
  have m2 := mag_neg y b
  refine ⟨m1.1, m2.1, ?_⟩
  rcases c with rfl | ⟨c, d⟩
  · exact .inl rfl
  · exact .inr ⟨by rw [m1.2]; exact c, by rw [m2.2]; exact d⟩

/-- Products and sums of the same numbers. -/
theorem ex_eqv {a b c d a' b' c' d' : Nat} {va vb vc vd : Int} (k : Int) (ha : Vl a va) (hb : Vl b vb) (hc : Vl c vc) (hd : Vl d vd) (h1 : -126 ≤ k) (h2 : k ≤ 127) (h : (va * vb + vc * vd).natAbs ≤ 2 ^ (k + 298).toNat)
    (ea : Eqv a a') (eb : Eqv b b') (ec : Eqv c c') (ed : Eqv d d') : Eqv (ex a b c d) (ex a' b' c' d') := by
  have ha' := eqv_vl ea ha
  have hb' := eqv_vl eb hb
  have hc' := eqv_vl ec hc
  have hd' := eqv_vl ed hd
  have x1 := (ex_ok k ha hb hc hd h1 h2 h).2.1
  have x2 := (ex_ok k ha' hb' hc' hd' h1 h2 h).2.1
  refine ⟨x1, x2, ?_⟩
  by_cases h0 : va * vb + vc * vd = 0
  · exact .inr ⟨(ex_zero ha hb hc hd h0).2, (ex_zero ha' hb' hc' hd' h0).2⟩
  · left
    obtain ⟨z, hz⟩ := ad_is ha hb hc hd
    obtain ⟨z', hz'⟩ := ad_is ha' hb' hc' hd'
    unfold ex
    rw [hz, hz']
    unfold Flt.wordOf
    rw [if_neg h0, if_neg h0]

theorem mul_eqc {z w z' w' : Cx} {k : Int} (h : Pb k z.re z.im w.re w.im) (ez : EqC z z') (ew : EqC w w') : EqC (z.mul w) (z'.mul w') := by
  obtain ⟨h1, h2, va, vb, vc, vd, ha, hb, hc, hd, g1, g2⟩ := h
  exact ⟨ex_eqv k ha hc (neg_vl hb) hd h1 h2 g1 ez.1 ew.1 (neg_eqv ez.2) ew.2, ex_eqv k ha hd hb hc h1 h2 g2 ez.1 ew.2 ez.2 ew.1⟩

theorem add_eqc {z w z' w' : Cx} {k : Int} (h : Sb k z.re z.im w.re w.im) (ez : EqC z z') (ew : EqC w w') : EqC (z.add w) (z'.add w') := by
  obtain ⟨h1, h2, va, vb, vc, vd, ha, hb, hc, hd, g1, g2⟩ := h
  exact ⟨(sm_same ha hc (eqv_vl ez.1 ha) (eqv_vl ew.1 hc) rfl).1, (sm_same hb hd (eqv_vl ez.2 hb) (eqv_vl ew.2 hd) rfl).1⟩

theorem ent_eqc {z w z' w' y x y' x' : Cx} (h : EntOk z w z' w') (e1 : EqC z y) (e2 : EqC w x) (e3 : EqC z' y') (e4 : EqC w' x') : EqC (ent z w z' w') (ent y x y' x') := by
  obtain ⟨k, ⟨j, h1⟩, ⟨i, h2⟩, h3⟩ := h
  exact add_eqc h3 (mul_eqc h1 e1 e2) (mul_eqc h2 e3 e4)

theorem mul_eqt {p t p' t' : Tb} (h : MulOk p t) (ep : EqT p p') (et : EqT t t') : EqT (p.mul t) (p'.mul t') := by
  obtain ⟨h1, h2, h3, h4⟩ := h
  obtain ⟨p1, p2, p3, p4⟩ := ep
  obtain ⟨t1, t2, t3, t4⟩ := et
  exact ⟨ent_eqc h1 p1 t1 p2 t3, ent_eqc h2 p1 t2 p2 t4, ent_eqc h3 p3 t1 p4 t3, ent_eqc h4 p3 t2 p4 t4⟩

/-- q is the same of both. -/
theorem q_eqt {t t' : Tb} {k : Nat} (h : TB k t) (hk : 2 * k + 2 ≤ 127) (e : EqT t t') : qOf t = qOf t' := by
  have sq : ∀ {z w : Cx}, CB k z → EqC z w → Eqv (nsq z) (nsq w) := by
    intro z w hz he
    obtain ⟨⟨a, b, ha, hb, g⟩, _⟩ := sq_ok hz (by omega)
    exact ex_eqv _ ha ha hb hb (by omega) (by omega) g he.1 he.1 he.2 he.2
  have s1 := sq h.1 e.1
  have s2 := sq h.2.1 e.2.1
  obtain ⟨u, hu, _⟩ := bd_has (sq_ok h.1 (by omega)).2 (by omega)
  obtain ⟨v, hv, _⟩ := bd_has (sq_ok h.2.1 (by omega)).2 (by omega)
  have := eqv_mag (sm_same hu hv (eqv_vl s1 hu) (eqv_vl s2 hv) rfl).1
  have q1 := (q_word h hk).1
  have q2 := (q_word (tb_eqv e h) hk).1
  have m : mag (qOf t) = mag (qOf t') := this
  unfold mag at m
  omega

theorem drift_eqt {t t' : Tb} {k : Nat} (h : TB k t) (hk : 2 * k + 3 ≤ 127) (e : EqT t t') : driftI t = driftI t' := by
  have hd := detI_ok h (by omega)
  have he : EqC (detI t) (detI t') := ent_eqc hd.1 e.1 e.2.2.2 ⟨neg_eqv e.2.1.1, neg_eqv e.2.1.2⟩ e.2.2.1
  obtain ⟨v, hv, _⟩ := bd_has hd.2.1 (by omega)
  have m := eqv_mag (sm_same hv (neg_vl one_vl.1) (eqv_vl he.1 hv) (neg_vl one_vl.1) rfl).1
  unfold driftI
  rw [q_eqt h (by omega) e, m, eqv_mag he.2]

/-- The table of parts, the turn about an axis, as tables. -/
def partsTb (a b c d : Nat) : Tb := ⟨⟨a, Op.negFloat .f32 d⟩, ⟨Op.negFloat .f32 c, Op.negFloat .f32 b⟩, ⟨c, Op.negFloat .f32 b⟩, ⟨a, d⟩⟩

theorem partsTb_v (a b c d : Nat) : (partsTb a b c d).v = tableOf a b c d := rfl

def aboutTb (i : Int) (c s : Nat) : Tb := if i = 0 then partsTb c s 0 0 else if i = 1 then partsTb c 0 s 0 else partsTb c 0 0 s

theorem aboutTb_v (i : Int) (c s : Nat) : (aboutTb i c s).v = aboutOf i c s := by
  unfold aboutTb aboutOf
  split
  · rfl
  · split
    · rfl
    · rfl

theorem halved_bd : ((List.range 25).all fun k => decide ((halved k).1 < 4294967296) && decide ((mag (halved k).1 : Int) ≤ (0 + 127) * 8388608) && decide ((halved k).2 < 4294967296) && decide ((mag (halved k).2 : Int) ≤ (0 + 127) * 8388608)) = true := by decide +kernel

theorem halved_of (k : Nat) (h : k ≤ 24) : Bd 0 (halved k).1 ∧ Bd 0 (halved k).2 := by
  have := List.all_eq_true.1 halved_bd k (List.mem_range.2 (by omega))
  simp only [Bool.and_eq_true, decide_eq_true_eq] at this
  exact ⟨⟨this.1.1.1, this.1.1.2⟩, ⟨this.1.2, this.2⟩⟩

theorem bd_null : Bd 0 0 ∧ mag 0 = 0 := ⟨⟨by omega, by decide⟩, by decide⟩

theorem bd_nneg : Bd 0 (Op.negFloat .f32 0) ∧ mag (Op.negFloat .f32 0) = 0 := ⟨bd_neg bd_null.1, by rw [(mag_neg 0 (by omega)).2]; decide⟩

/-- The table of a pulse, there or back. -/
theorem about_pls (i : Int) {c s : Nat} (hc : Bd 0 c) (hs : Bd 0 s) : Pls (aboutTb i c s) ∧ Pls (aboutTb i c s).adj := by
  have z := bd_null
  have n := bd_nneg
  have nn := mag_neg (Op.negFloat .f32 0) n.1.1
  have hn := bd_neg hs
  have hnn := bd_neg hn
  unfold aboutTb
  split
  · refine ⟨.inl ⟨⟨⟨hc, n.1⟩, .inr n.2⟩, ⟨⟨n.1, hn⟩, .inl n.2⟩, ⟨⟨z.1, hn⟩, .inl z.2⟩, ⟨⟨hc, z.1⟩, .inr z.2⟩⟩, .inl ⟨⟨⟨hc, bd_neg n.1⟩, .inr (nn.2.trans n.2)⟩, ⟨⟨z.1, hnn⟩, .inl z.2⟩, ⟨⟨n.1, hnn⟩, .inl n.2⟩, ⟨⟨hc, n.1⟩, .inr n.2⟩⟩⟩
  · split
    · refine ⟨.inl ⟨⟨⟨hc, n.1⟩, .inr n.2⟩, ⟨⟨hn, n.1⟩, .inr n.2⟩, ⟨⟨hs, n.1⟩, .inr n.2⟩, ⟨⟨hc, z.1⟩, .inr z.2⟩⟩, .inl ⟨⟨⟨hc, bd_neg n.1⟩, .inr (nn.2.trans n.2)⟩, ⟨⟨hs, bd_neg n.1⟩, .inr (nn.2.trans n.2)⟩, ⟨⟨hn, bd_neg n.1⟩, .inr (nn.2.trans n.2)⟩, ⟨⟨hc, n.1⟩, .inr n.2⟩⟩⟩
    · refine ⟨.inr ⟨⟨hc, hn⟩, ⟨⟨n.1, n.1⟩, n.2, n.2⟩, ⟨⟨z.1, n.1⟩, z.2, n.2⟩, ⟨hc, hs⟩⟩, .inr ⟨⟨hc, hnn⟩, ⟨⟨z.1, bd_neg n.1⟩, z.2, nn.2.trans n.2⟩, ⟨⟨n.1, bd_neg n.1⟩, n.2, nn.2.trans n.2⟩, ⟨hc, hn⟩⟩⟩

end Go.Proofs.Ytaghfffbhgpalaa
