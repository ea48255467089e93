/- Opposite tables make the same of a vector. Walks: the table of a vector, products of three tables. -/
import Derived.Test.YtlglbinalocilaaU4
namespace Go.Proofs.Ytlglbinalocilaa
open Go.RowKit

/-- One the opposite number of the other. -/
def Opp (x y : Nat) : Prop := ∃ v, Vl x v ∧ Vl y (-v)
def OppC (z w : Cx) : Prop := Opp z.re w.re ∧ Opp z.im w.im
def OppT (s t : Tb) : Prop := OppC s.a t.a ∧ OppC s.b t.b ∧ OppC s.c t.c ∧ OppC s.d t.d

/-- A number has one value. -/
theorem vl_one_value {x : Nat} {u v : Int} (h : Vl x u) (g : Vl x v) : u = v := by
  obtain ⟨s, m, p, rfl, hf, rfl⟩ := h
  obtain ⟨t, n, q, e, hg, rfl⟩ := g
  have l1 := fitS_low hf
  have l2 := fitS_low hg
  have o := Flt.order_fit Ieee.single (by decide) s t m n p q (-149) hf hg l1 l2
  have o2 := Flt.order_fit Ieee.single (by decide) s s m m p p (-149) hf hf l1 l1
  have e2 : Ieee.single.order (Ieee.single.nearest s m p) (Ieee.single.nearest t n q) = Ieee.single.order (Ieee.single.nearest s m p) (Ieee.single.nearest s m p) := by
    have : Ieee.single.nearest t n q = Ieee.single.nearest s m p := e.symm
    rw [this]
  rw [o, o2, cmp_eq (rfl : Flt.sv s m * 2 ^ (p - -149).toNat = _)] at e2
  injection e2 with e2
  have e3 : (p - -149).toNat = (p + 149).toNat := by congr 1
  have e4 : (q - -149).toNat = (q + 149).toNat := by congr 1
  rw [e3, e4] at e2
  generalize Flt.sv s m * 2 ^ (p + 149).toNat = x at *
  generalize Flt.sv t n * 2 ^ (q + 149).toNat = y at *
  rcases Int.lt_trichotomy x y with h | h | h
  · rw [cmp_lt h] at e2; cases e2
  · exact h
  · rw [cmp_gt h] at e2; cases e2

theorem opp_neg {x : Nat} {v : Int} (h : Vl x v) : Opp x (Op.negFloat .f32 x) := ⟨v, h, neg_vl h⟩

theorem sm_opp {x y x' y' : Nat} {v u : Int} (k : Int) (hx : Vl x v) (hy : Vl y u) (hx' : Vl x' (-v)) (hy' : Vl y' (-u)) (h1 : -126 ≤ k) (h2 : k ≤ 127) (h : (v + u).natAbs ≤ 2 ^ (k + 149).toNat) : Opp (sm x y) (sm x' y') := by
  have word : ∀ {x y : Nat} {vx vy : Int}, Vl x vx → Vl y vy → ∃ z, sm x y = Flt.wordOf Ieee.single z (vx + vy) (-149) := by
    rintro x y vx vy ⟨s, m, p, rfl, hf, rfl⟩ ⟨t, n, q, rfl, hg, rfl⟩
    have := Flt.add_fit Ieee.single (by decide) s t m n p q (-149) hf hg (fitS_low hf) (fitS_low hg)
    have h3 : floatBits .add .f32 (S s m p) (S t n q) = some (Flt.wordOf Ieee.single (s && t) (Flt.sv s m * 2 ^ (p + 149).toNat + Flt.sv t n * 2 ^ (q + 149).toNat) (-149)) := this
    exact ⟨s && t, by unfold sm; rw [h3]; rfl⟩
  have o1 := (sm_ok k hx hy h1 h2 h).2
  obtain ⟨r, hr⟩ := vl_of _ o1.1 (bd_fin o1 h2)
  refine ⟨r, hr, ?_⟩
  obtain ⟨z, hz⟩ := word hx hy
  obtain ⟨z', hz'⟩ := word hx' hy'
  have e : -v + -u = -(v + u) := by omega
  rw [e] at hz'
  by_cases h0 : v + u = 0
  · have m1 : mag (sm x y) = 0 := by
      rw [hz, h0]
      unfold Flt.wordOf
      rw [if_pos rfl, show Int.natAbs 0 = 0 from rfl]
      have := (mag_S z 0 (-149)).2
      rw [Flt.rung_zero] at this
      exact this
    have m2 : mag (sm x' y') = 0 ∧ sm x' y' < 4294967296 := by
      rw [hz', h0]
      unfold Flt.wordOf
      rw [show -(0 : Int) = 0 from rfl, if_pos rfl, show Int.natAbs 0 = 0 from rfl]
      obtain ⟨q1, q2⟩ := mag_S z' 0 (-149)
      rw [Flt.rung_zero] at q2
      exact ⟨q2, q1⟩
    have hr0 := vl_zero hr m1
    subst hr0
    obtain ⟨r', hr'⟩ := vl_of _ m2.2 (decide_eq_true (by omega))
    have := vl_zero hr' m2.1
    subst this
    exact hr'
  · have e1 : sm x y = S (decide (v + u < 0)) (v + u).natAbs (-149) := by
      rw [hz]; unfold Flt.wordOf; rw [if_neg h0]; rfl
    have e2 : sm x' y' = S (!decide (v + u < 0)) (v + u).natAbs (-149) := by
      rw [hz']
      unfold Flt.wordOf
      rw [if_neg (by omega), Int.natAbs_neg]
      have hs : decide (-(v + u) < 0) = !decide (v + u < 0) := by
        by_cases hv : v + u < 0
        · rw [decide_eq_true hv, decide_eq_false (by omega)]; rfl
        · rw [decide_eq_false hv, decide_eq_true (by omega)]; rfl
      rw [hs]; rfl
    rw [e2, ← neg_S, ← e1]
    exact neg_vl hr

theorem neg_opp {x y : Nat} (h : Opp x y) : Opp (Op.negFloat .f32 x) (Op.negFloat .f32 y) := by
  obtain ⟨v, a, b⟩ := h
  exact ⟨-v, neg_vl a, neg_vl b⟩

theorem mul_opp {z w z' : Cx} {k : Int} (h : Pb k z.re z.im w.re w.im) (e : OppC z z') : OppC (z.mul w) (z'.mul w) := by
  obtain ⟨h1, h2, va, vb, vc, vd, ha, hb, hc, hd, g1, g2⟩ := h
  obtain ⟨⟨a, a1, a2⟩, ⟨b, b1, b2⟩⟩ := e
  have := vl_one_value ha a1
  subst this
  have := vl_one_value hb b1
  subst this
  exact ⟨ex_opp k ha hc (neg_vl hb) hd a2 hc (neg_vl b2) hd h1 h2 g1 (by simp only [Int.neg_mul]; omega), ex_opp k ha hd hb hc a2 hd b2 hc h1 h2 g2 (by simp only [Int.neg_mul]; omega)⟩

theorem add_opp {z w z' w' : Cx} {k : Int} (h : Sb k z.re z.im w.re w.im) (e : OppC z z') (f : OppC w w') : OppC (z.add w) (z'.add w') := by
  obtain ⟨h1, h2, va, vb, vc, vd, ha, hb, hc, hd, g1, g2⟩ := h
  obtain ⟨⟨a, a1, a2⟩, ⟨b, b1, b2⟩⟩ := e
  obtain ⟨⟨c, c1, c2⟩, ⟨d, d1, d2⟩⟩ := f
  have := vl_one_value ha a1
  subst this
  have := vl_one_value hb b1
  subst this
  have := vl_one_value hc c1
  subst this
  have := vl_one_value hd d1
  subst this
  exact ⟨sm_opp k ha hc a2 c2 h1 h2 g1, sm_opp k hb hd b2 d2 h1 h2 g2⟩

theorem ent_opp {z w z' w' y y' : Cx} (h : EntOk z w z' w') (e1 : OppC z y) (e2 : OppC z' y') : OppC (ent z w z' w') (ent y w y' w') := by
  obtain ⟨k, ⟨j, h1⟩, ⟨i, h2⟩, h3⟩ := h
  exact add_opp h3 (mul_opp h1 e1) (mul_opp h2 e2)

theorem mul_oppT {s t s' : Tb} (h : MulOk s t) (e : OppT s s') : OppT (s.mul t) (s'.mul t) := by
  obtain ⟨h1, h2, h3, h4⟩ := h
  obtain ⟨e1, e2, e3, e4⟩ := e
  exact ⟨ent_opp h1 e1 e2, ent_opp h2 e1 e2, ent_opp h3 e3 e4, ent_opp h4 e3 e4⟩

/-- Sums of products of the same value. -/
theorem ex_samev {a b c d a' b' c' d' : Nat} {va vb vc vd va' vb' vc' vd' : Int} (k : Int) (ha : Vl a va) (hb : Vl b vb) (hc : Vl c vc) (hd : Vl d vd) (ha' : Vl a' va') (hb' : Vl b' vb') (hc' : Vl c' vc') (hd' : Vl d' vd')
    (h1 : -126 ≤ k) (h2 : k ≤ 127) (h : (va * vb + vc * vd).natAbs ≤ 2 ^ (k + 298).toNat) (he : va' * vb' + vc' * vd' = va * vb + vc * vd) : Eqv (ex a b c d) (ex a' b' c' d') := by
  have x1 := (ex_ok k ha hb hc hd h1 h2 h).2.1
  have x2 := (ex_ok k ha' hb' hc' hd' h1 h2 (by rw [he]; exact h)).2.1
  refine ⟨x1, x2, ?_⟩
  by_cases h0 : va * vb + vc * vd = 0
  · exact .inr ⟨(ex_zero ha hb hc hd h0).2, (ex_zero ha' hb' hc' hd' (by rw [he]; exact h0)).2⟩
  · left
    obtain ⟨z, hz⟩ := ad_is ha hb hc hd
    obtain ⟨z', hz'⟩ := ad_is ha' hb' hc' hd'
    unfold ex
    rw [hz, hz', he]
    unfold Flt.wordOf
    rw [if_neg h0, if_neg h0]

theorem mul_twice {z w z' w' : Cx} {k : Int} (h : Pb k z.re z.im w.re w.im) (e : OppC z z') (f : OppC w w') : EqC (z.mul w) (z'.mul w') := by
  obtain ⟨h1, h2, va, vb, vc, vd, ha, hb, hc, hd, g1, g2⟩ := h
  obtain ⟨⟨a, a1, a2⟩, ⟨b, b1, b2⟩⟩ := e
  obtain ⟨⟨c, c1, c2⟩, ⟨d, d1, d2⟩⟩ := f
  have := vl_one_value ha a1
  subst this
  have := vl_one_value hb b1
  subst this
  have := vl_one_value hc c1
  subst this
  have := vl_one_value hd d1
  subst this
  exact ⟨ex_samev k ha hc (neg_vl hb) hd a2 c2 (neg_vl b2) d2 h1 h2 g1 (by simp only [Int.neg_mul, Int.mul_neg, Int.neg_neg]), ex_samev k ha hd hb hc a2 d2 b2 c2 h1 h2 g2 (by simp only [Int.neg_mul, Int.mul_neg, Int.neg_neg])⟩

theorem ent_twice {z w z' w' y x y' x' : Cx} (h : EntOk z w z' w') (e1 : OppC z y) (e2 : OppC w x) (e3 : OppC z' y') (e4 : OppC w' x') : EqC (ent z w z' w') (ent y x y' x') := by
  obtain ⟨k, ⟨j, h1⟩, ⟨i, h2⟩, h3⟩ := h
  exact add_eqc h3 (mul_twice h1 e1 e2) (mul_twice h2 e3 e4)

theorem mul_twiceT {s t s' t' : Tb} (h : MulOk s t) (e : OppT s s') (f : OppT t t') : EqT (s.mul t) (s'.mul t') := by
  obtain ⟨h1, h2, h3, h4⟩ := h
  obtain ⟨e1, e2, e3, e4⟩ := e
  obtain ⟨f1, f2, f3, f4⟩ := f
  exact ⟨ent_twice h1 e1 f1 e2 f3, ent_twice h2 e1 f2 e2 f4, ent_twice h3 e3 f1 e4 f3, ent_twice h4 e3 f2 e4 f4⟩

def Cx.opp (z : Cx) : Cx := ⟨Op.negFloat .f32 z.re, Op.negFloat .f32 z.im⟩
def Tb.opp (t : Tb) : Tb := ⟨t.a.opp, t.b.opp, t.c.opp, t.d.opp⟩

theorem opp_c {z : Cx} {k : Nat} (h : CB k z) (hk : k ≤ 127) : OppC z z.opp := by
  obtain ⟨a, ha, _⟩ := bd_has h.1 hk
  obtain ⟨b, hb, _⟩ := bd_has h.2 hk
  exact ⟨opp_neg ha, opp_neg hb⟩

theorem opp_t {t : Tb} {k : Nat} (h : TB k t) (hk : k ≤ 127) : OppT t t.opp := ⟨opp_c h.1 hk, opp_c h.2.1 hk, opp_c h.2.2.1 hk, opp_c h.2.2.2 hk⟩

theorem opp_tb {t : Tb} {k : Int} (h : TB k t) : TB k t.opp := ⟨⟨bd_neg h.1.1, bd_neg h.1.2⟩, ⟨bd_neg h.2.1.1, bd_neg h.2.1.2⟩, ⟨bd_neg h.2.2.1.1, bd_neg h.2.2.1.2⟩, ⟨bd_neg h.2.2.2.1, bd_neg h.2.2.2.2⟩⟩

theorem adj_tb {t : Tb} {k : Int} (h : TB k t) : TB k t.adj := ⟨⟨h.1.1, bd_neg h.1.2⟩, ⟨h.2.2.1.1, bd_neg h.2.2.1.2⟩, ⟨h.2.1.1, bd_neg h.2.1.2⟩, ⟨h.2.2.2.1, bd_neg h.2.2.2.2⟩⟩

theorem adj_opp {s t : Tb} (h : OppT s t) : OppT s.adj t.adj := ⟨⟨h.1.1, neg_opp h.1.2⟩, ⟨h.2.2.1.1, neg_opp h.2.2.1.2⟩, ⟨h.2.1.1, neg_opp h.2.1.2⟩, ⟨h.2.2.2.1, neg_opp h.2.2.2.2⟩⟩

/-- What a table makes of the table of a vector. -/
def madeOf (a v : Tb) : Tb := (a.mul v).mul a.adj

theorem made_ok {a v : Tb} (ha : TB 60 a) (hv : TB 2 v) : MulOk a v ∧ MulOk (a.mul v) a.adj ∧ TB 126 (madeOf a v) := by
  have h1 := mul_any (j := 60) (k := 2) ha hv (by omega)
  have h2 := mul_any (j := 64) (k := 60) h1.2 (adj_tb ha) (by omega)
  exact ⟨h1.1, h2.1, h2.2⟩

/-- Opposite tables make the same of it. -/
theorem made_opp {a v : Tb} (ha : TB 60 a) (hv : TB 2 v) : EqT (madeOf a v) (madeOf a.opp v) := by
  obtain ⟨h1, h2, _⟩ := made_ok ha hv
  have o := opp_t (k := 60) ha (by omega)
  exact mul_twiceT h2 (mul_oppT h1 o) (adj_opp o)

end Go.Proofs.Ytlglbinalocilaa

namespace Go.Proofs.Ytlglbinalocilaa
open Go.RowKit

def vecTb (x y z : Nat) : Tb := ⟨⟨z, 0⟩, ⟨x, Op.negFloat .f32 y⟩, ⟨x, y⟩, ⟨Op.negFloat .f32 z, 0⟩⟩

set_option maxRecDepth 100000 in
set_option maxHeartbeats 1000000 in
theorem turnOfVector_any (x y z : Nat) (w : World) :
    Calls Try.prog 37 #[.agg #[.float .f32 x, .float .f32 y, .float .f32 z]] w fun e w' => e = .returned (vecTb x y z).v ∧ Below w.heap.size w w' := by
  rw [four]
  unfold vecTb
  simp only
  go_enter Try.func37, Try.ntmps37
  go_wp2
  go_quiet (fail)
  go_wp2
  refine bodyPost_ret (v := .agg #[.complex .f32 z 0, .complex .f32 x (Op.negFloat .f32 y), .complex .f32 x y, .complex .f32 (Op.negFloat .f32 z) 0]) (by simp [results, Try.results37, go_sem]) rfl ⟨rfl, ?_⟩
  all_goals repeat first
    | exact Below.refl _ _
    | refine Below.setCell ?_ ?_ _
    | refine Below.alloc ?_ ?_ _
    | refine below_drewN ?_ _
  all_goals first | omega | (simp; done) | (simp; omega)

/-- Two tables one behind the other. -/
structure TT (W : World) (b : Nat) (s t : Tb) : Prop where
  c0 : W.cell? ⟨b, 0, none⟩ = some (.complex .f32 s.a.re s.a.im)
  c1 : W.cell? ⟨b, 1, none⟩ = some (.complex .f32 s.b.re s.b.im)
  c2 : W.cell? ⟨b, 2, none⟩ = some (.complex .f32 s.c.re s.c.im)
  c3 : W.cell? ⟨b, 3, none⟩ = some (.complex .f32 s.d.re s.d.im)
  c4 : W.cell? ⟨b, 4, none⟩ = some (.complex .f32 t.a.re t.a.im)
  c5 : W.cell? ⟨b, 5, none⟩ = some (.complex .f32 t.b.re t.b.im)
  c6 : W.cell? ⟨b, 6, none⟩ = some (.complex .f32 t.c.re t.c.im)
  c7 : W.cell? ⟨b, 7, none⟩ = some (.complex .f32 t.d.re t.d.im)
  lt : b < W.heap.size

theorem TT.below {W W' : World} {B b : Nat} {s t : Tb} (h : TT W b s t) (hb : Below B W W') (hB : b < B) : TT W' b s t :=
  ⟨(hb.cell (p := ⟨b, 0, none⟩) hB).trans h.c0, (hb.cell (p := ⟨b, 1, none⟩) hB).trans h.c1, (hb.cell (p := ⟨b, 2, none⟩) hB).trans h.c2, (hb.cell (p := ⟨b, 3, none⟩) hB).trans h.c3,
   (hb.cell (p := ⟨b, 4, none⟩) hB).trans h.c4, (hb.cell (p := ⟨b, 5, none⟩) hB).trans h.c5, (hb.cell (p := ⟨b, 6, none⟩) hB).trans h.c6, (hb.cell (p := ⟨b, 7, none⟩) hB).trans h.c7, Nat.lt_of_lt_of_le h.lt hb.size⟩

def prods (a s t : Tb) : Nat → Tb
  | 0 => a
  | 1 => a.mul s
  | _ => (a.mul s).mul t

theorem prods0 (a s t : Tb) : prods a s t 0 = a := rfl
theorem prods1 (a s t : Tb) : prods a s t 1 = a.mul s := rfl
theorem prods2 (a s t : Tb) : prods a s t 2 = (a.mul s).mul t := rfl

set_option maxRecDepth 100000 in
set_option maxHeartbeats 4000000 in
theorem timesAll_ok {a s t : Tb} {b : Nat} {w : World} (h : TT w b s t) (h1 : MulOk a s) (h2 : MulOk (a.mul s) t) :
    Calls Try.prog 36 #[.agg #[.complex .f32 a.a.re a.a.im, .complex .f32 a.b.re a.b.im, .complex .f32 a.c.re a.c.im, .complex .f32 a.d.re a.d.im], .slice (some ⟨b, 0, none⟩) 2 2] w fun e w' => e = .returned (.tuple #[.agg #[.complex .f32 (prods a s t 2).a.re (prods a s t 2).a.im, .complex .f32 (prods a s t 2).b.re (prods a s t 2).b.im, .complex .f32 (prods a s t 2).c.re (prods a s t 2).c.im, .complex .f32 (prods a s t 2).d.re (prods a s t 2).d.im], .int .i64 0]) ∧ Below w.heap.size w w' := by
  have M0 := Lib.hid (fun w => by have := times_ok h1 w; rw [four, four, four] at this; exact this)
  have M1 := Lib.hid (fun w => by have := times_ok h2 w; rw [four, four, four] at this; exact this)
  have HTT := Lib.hid h
  have hr0 := ((TC.new (w.alloc (.cells #[.complex .f32 a.a.re a.a.im, .complex .f32 a.b.re a.b.im, .complex .f32 a.c.re a.c.im, .complex .f32 a.d.re a.d.im] 29)) 29 nilTb).alloc (.cells #[.complex .f32 a.a.re a.a.im, .complex .f32 a.b.re a.b.im, .complex .f32 a.c.re a.c.im, .complex .f32 a.d.re a.d.im] 29))
  have hp0 := (TC.new ((w.alloc (.cells #[.complex .f32 a.a.re a.a.im, .complex .f32 a.b.re a.b.im, .complex .f32 a.c.re a.c.im, .complex .f32 a.d.re a.d.im] 29)).alloc (.cells #[.complex .f32 0 0, .complex .f32 0 0, .complex .f32 0 0, .complex .f32 0 0] 29)) 29 a)
  have HB := Lib.hid ((((Below.refl w.heap.size w).alloc (Nat.le_refl _) (.cells #[.complex .f32 a.a.re a.a.im, .complex .f32 a.b.re a.b.im, .complex .f32 a.c.re a.c.im, .complex .f32 a.d.re a.d.im] 29)).alloc (by simp) (.cells #[.complex .f32 0 0, .complex .f32 0 0, .complex .f32 0 0, .complex .f32 0 0] 29)).alloc (by simp; omega) (.cells #[.complex .f32 a.a.re a.a.im, .complex .f32 a.b.re a.b.im, .complex .f32 a.c.re a.c.im, .complex .f32 a.d.re a.d.im] 29))
  rw [World.size_alloc] at hr0
  rw [World.size_alloc, World.size_alloc] at hp0
  have HR := Lib.hid hr0
  have HP := Lib.hid hp0
  have hlt := h.lt
  clear h h1 h2 hr0 hp0
  go_enter Try.func36, Try.ntmps36
  go_wp2_with fail
  go_loopw [14] (fun i wr => ∃ k : Nat, i = .int .i64 k ∧ k ≤ 2 ∧ Below w.heap.size w wr ∧ TC wr (w.heap.size + 1) nilTb ∧ TC wr (w.heap.size + 1 + 1) (prods a s t k)) (fun i _ => 2 - (intOf i).toNat)
  case atStart => exact ⟨0, rfl, by omega, HB.out, HR.out, HP.out⟩
  case round =>
    obtain ⟨k, rfl, hk, hb, hr, hp⟩ := hrel
    have hk3 : k = 0 ∨ k = 1 ∨ k = 2 := by omega
    have HBr := Lib.hid hb
    have HRr := Lib.hid hr
    have HPr := Lib.hid hp
    obtain ⟨e0, e1, e2, e3, e4, e5, e6, e7, el⟩ := HTT.out.below hb hlt
    obtain ⟨p0, p1, p2, p3, g0, g1, g2, g3, gl⟩ := hp
    clear hb
    rcases hk3 with rfl | rfl | rfl
    · clear hr
      rw [prods0] at p0 p1 p2 p3 HPr
      go_wp2_with fail
      refine (M0.out _).mono ?_
      rintro e w3 ⟨rfl, hb3⟩
      have P3 := Lib.hid ((HPr.out.alloc _).below hb3)
      have R3 := Lib.hid ((HRr.out.alloc _).below hb3)
      obtain ⟨t0, t1, t2, t3, s0, s1, s2, s3, tl⟩ := P3.out
      have HB3 := Lib.hid (Below.trans (Below.alloc HBr.out (by have := HBr.out.size; omega) _) (hb3.mono (by have := HBr.out.size; simp; omega)))
      clear hb3
      have hn : ¬ w.heap.size + 1 + 1 = w3.heap.size := by omega
      go_wp2_with fail
      go_roundw
      case rel =>
        refine ⟨1, by go_num, by omega, Below.alloc (Below.put4 HB3.out (by omega) _ _ _ _) (by have := HB3.out.size; simp; omega) _, (R3.out.far (by omega) _ _ _ _).alloc _, ?_⟩
        rw [prods1]
        exact (P3.out.put (a.mul s)).alloc _
      case measure => simp [intOf]
    · clear hr
      rw [prods1] at p0 p1 p2 p3 HPr
      go_wp2_with fail
      refine (M1.out _).mono ?_
      rintro e w3 ⟨rfl, hb3⟩
      have P3 := Lib.hid ((HPr.out.alloc _).below hb3)
      have R3 := Lib.hid ((HRr.out.alloc _).below hb3)
      obtain ⟨t0, t1, t2, t3, s0, s1, s2, s3, tl⟩ := P3.out
      have HB3 := Lib.hid (Below.trans (Below.alloc HBr.out (by have := HBr.out.size; omega) _) (hb3.mono (by have := HBr.out.size; simp; omega)))
      clear hb3
      have hn : ¬ w.heap.size + 1 + 1 = w3.heap.size := by omega
      go_wp2_with fail
      go_roundw
      case rel =>
        refine ⟨2, by go_num, by omega, Below.alloc (Below.put4 HB3.out (by omega) _ _ _ _) (by have := HB3.out.size; simp; omega) _, (R3.out.far (by omega) _ _ _ _).alloc _, ?_⟩
        rw [prods2]
        exact (P3.out.put ((a.mul s).mul t)).alloc _
      case measure => simp [intOf]
    · obtain ⟨r0, r1, r2, r3, f0, f1, f2, f3, fl⟩ := hr
      simp only [nilTb] at r0 r1 r2 r3
      go_wp2_with fail
      all_goals
        obtain ⟨x0, x1, x2, x3, _, _, _, _, _⟩ := HRr.out.put (prods a s t 2)
        refine bodyPost_ret (v := .tuple #[.agg #[.complex .f32 (prods a s t 2).a.re (prods a s t 2).a.im, .complex .f32 (prods a s t 2).b.re (prods a s t 2).b.im, .complex .f32 (prods a s t 2).c.re (prods a s t 2).c.im, .complex .f32 (prods a s t 2).d.re (prods a s t 2).d.im], .int .i64 0]) (by simp [results, Try.results36, go_sem, x0, x1, x2, x3]) rfl ⟨rfl, Below.put4 HBr.out (by omega) _ _ _ _⟩

end Go.Proofs.Ytlglbinalocilaa
