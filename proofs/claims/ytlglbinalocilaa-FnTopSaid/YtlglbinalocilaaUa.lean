/- What the law of the top begins with: a drawn list, the numbers of its dice; vectors and pairs held against each other. -/
import Derived.Test.YtlglbinalocilaaKaa
import Derived.Test.YtlglbinalocilaaKbh
import Derived.Test.YtlglbinalocilaaDy
import Derived.Test.YtlglbinalocilaaKbj
namespace Go.Proofs.Ytlglbinalocilaa
open Go.RowKit

theorem top_big (W : World) (c : Value) (len : Nat) (w : World) (h : Code W c len) :
    Calls Try.prog 6 #[c] w fun e w' => e = .returned (.bool (decide ((4096 : Int) < (len : Int)))) ∧ w = w' := by
  obtain ⟨a, cap, rfl, _⟩ := h
  generalize hn : (len : Int) = n
  go_enter Try.func6, Try.ntmps6
  go_wp2_with fail
  go_ret
  exact ⟨rfl, rfl⟩

/-- A drawn list lies in memory of its own. -/
def ListPost (W0 : World) (e : Ending) (w' : World) : Prop := ∃ g kc m P, e = .returned (.slice (some ⟨g, 0, none⟩) m kc) ∧ m ≤ kc ∧ m ≤ 61 ∧ Rd w' (.slice (some ⟨g, 0, none⟩) m kc) m P ∧ Below W0.heap.size W0 w'

theorem drawTable_any (W0 : World) (c : Value) (len : Nat) (hcode : Code W0 c len) (hlen : (len : Int) ≤ 4096) :
    Calls Try.prog 7 #[c] W0 (ListPost W0) := by
  have HF := Lib.hid (from_any W0 c len W0.heap.size W0 hcode hlen rfl (Below.refl _ _))
  have HS := Lib.hid (fun w hs => l05Spoil_any W0 c len W0.heap.size w hcode hlen hs)
  obtain ⟨a, cap, rfl, _⟩ := hcode
  go_enter Try.func7, Try.ntmps7
  go_wp2_with fail
  refine HF.out.mono ?_
  rintro e w1 ⟨rfl, hs1⟩
  go_wp2_with fail
  refine (HS.out _ hs1).mono ?_
  rintro e w2 ⟨v, L, m, rfl, hL, hm, hown, hnn, hs2⟩
  obtain ⟨g, kc, rfl, hkc⟩ := owns_some hown hnn
  have HR := Lib.hid (own_rd (owns_own hown hL))
  have HB := Lib.hid hs2.old
  clear hown hs2 hs1
  go_wp2_with fail
  go_ret
  exact ⟨g, kc, m, _, rfl, hkc, hm, HR.out, HB.out⟩

def dieF (x : Int) : Nat := floatOfInt .f32 x
def dieW (x : Int) : Nat := (floatBits .sub .f32 (dieF x) 1082130432).getD 0

theorem dies : ((List.range 9).all fun k => (floatBits .sub .f32 (dieF (k : Nat)) 1082130432 == some (dieW (k : Nat))) && decide (dieW (k : Nat) < 4294967296) && decide ((mag (dieW (k : Nat)) : Int) ≤ (2 + 127) * 8388608)) = true := by decide +kernel

theorem die_ok {x : Int} (h0 : 0 ≤ x) (h9 : x < 9) : floatBits .sub .f32 (dieF x) 1082130432 = some (dieW x) ∧ Bd 2 (dieW x) := by
  obtain ⟨k, rfl⟩ := Int.eq_ofNat_of_zero_le h0
  have := List.all_eq_true.1 dies k (List.mem_range.2 (by omega))
  simp only [Bool.and_eq_true, beq_iff_eq, decide_eq_true_eq] at this
  exact ⟨this.1.1, this.1.2, this.2⟩

theorem die_runs {x : Int} (h0 : 0 ≤ x) (h9 : x < 9) : (∀ w, (convert 2 38 (.int .i64 x)).run Try.prog w = .ok (.float .f32 (dieF x)) w) ∧ ∀ t w, (binOp .sub t (.float .f32 (dieF x)) (.float .f32 1082130432)).run Try.prog w = .ok (.float .f32 (dieW x)) w :=
  ⟨fun w => run_convert_int_float w 2 38 .i64 .f32 _ (by rw [Try.underlying2]; rfl) Try.underlying38, fun t w => run_float_arith w .sub t .f32 _ _ _ (die_ok h0 h9).1⟩

theorem vec_tb {x y z : Nat} (hx : Bd 2 x) (hy : Bd 2 y) (hz : Bd 2 z) : TB 2 (vecTb x y z) := by
  have z0 : Bd 2 0 := bd_mono bd_null.1 (by omega)
  exact ⟨⟨hz, z0⟩, ⟨hx, bd_neg hy⟩, ⟨hx, hy⟩, ⟨bd_neg hz, z0⟩⟩

theorem bd_num {x : Nat} {k : Int} (h : Bd k x) (hk : k ≤ 127) : x < 4294967296 ∧ fin x = true := ⟨h.1, bd_fin h hk⟩

theorem neq_vec {a b c a' b' c' : Nat} (ha : Eqv a a') (hb : Eqv b b') (hc : Eqv c c') (fa : fin a = true) (fb : fin b = true) (fc : fin c = true) (w : World) :
    (binOp .neq 41 (.agg #[.float .f32 a, .float .f32 b, .float .f32 c]) (.agg #[.float .f32 a', .float .f32 b', .float .f32 c'])).run Try.prog w = .ok (.bool false) w := by
  rw [run_neq_struct]
  rw [run_equalIn_array w 9999 3 1 41 38 _ _ Try.underlying41 (by kernel_rfl)]
  have h0 : ∀ (x y z : Nat) (w : World), (part 38 #[.float .f32 x, .float .f32 y, .float .f32 z] (0 * 1)).run Try.prog w = .ok (.float .f32 x) w := fun _ _ _ _ => by kernel_rfl
  have h1 : ∀ (x y z : Nat) (w : World), (part 38 #[.float .f32 x, .float .f32 y, .float .f32 z] (1 * 1)).run Try.prog w = .ok (.float .f32 y) w := fun _ _ _ _ => by kernel_rfl
  have h2 : ∀ (x y z : Nat) (w : World), (part 38 #[.float .f32 x, .float .f32 y, .float .f32 z] (2 * 1)).run Try.prog w = .ok (.float .f32 z) w := fun _ _ _ _ => by kernel_rfl
  have he : ∀ {x y : Nat} (_ : Eqv x y) (_ : fin x = true) (w : World), (Op.equalIn 9999 38 (.float .f32 x) (.float .f32 y)).run Try.prog w = .ok true w := fun {x y} h f w => by
    rw [run_equalIn_float w 9998 38 .f32 .f32 x y Try.underlying38, ord_eqv h f]; rfl
  show ((eqElems 9999 38 1 _ _ [0, 1, 2]).run Try.prog w).andThen _ = _
  simp only [eqElems, Sem.run_bind, h0, h1, h2, Result.andThen_ok, he ha fa, he hb fb, he hc fc, Sem.run_ite, Sem.run_pure]
  rfl

/-- Pairs as words. -/
structure Pr where
  a : Cx
  b : Cx
  c : Cx
  d : Cx

def Pr.v (p : Pr) : Value := .agg #[.complex .f32 p.a.re p.a.im, .complex .f32 p.b.re p.b.im, .complex .f32 p.c.re p.c.im, .complex .f32 p.d.re p.d.im]
def PB (k : Int) (p : Pr) : Prop := CB k p.a ∧ CB k p.b ∧ CB k p.c ∧ CB k p.d
def Pr.swap (p : Pr) : Pr := ⟨p.a, p.c, p.b, p.d⟩
def onFirst (a : Tb) (p : Pr) : Pr := ⟨ent a.a p.a a.b p.c, ent a.a p.b a.b p.d, ent a.c p.a a.d p.c, ent a.c p.b a.d p.d⟩
def onSecond (a : Tb) (p : Pr) : Pr := ⟨ent a.a p.a a.b p.b, ent a.c p.a a.d p.b, ent a.a p.c a.b p.d, ent a.c p.c a.d p.d⟩

theorem first_second (a : Tb) (p : Pr) : (onSecond a p.swap).swap = onFirst a p := rfl

theorem swap_pb {p : Pr} {k : Int} (h : PB k p) : PB k p.swap := ⟨h.1, h.2.2.1, h.2.1, h.2.2.2⟩

theorem first_ok {a : Tb} {p : Pr} (ha : TB 60 a) (hp : PB 2 p) : PB 64 (onFirst a p) ∧ (EntOk a.a p.a a.b p.c ∧ EntOk a.a p.b a.b p.d ∧ EntOk a.c p.a a.d p.c ∧ EntOk a.c p.b a.d p.d) := by
  obtain ⟨a1, a2, a3, a4⟩ := ha
  obtain ⟨p1, p2, p3, p4⟩ := hp
  have e1 := ent_any (j := 60) (k := 2) a1 a2 p1 p3 (by omega)
  have e2 := ent_any (j := 60) (k := 2) a1 a2 p2 p4 (by omega)
  have e3 := ent_any (j := 60) (k := 2) a3 a4 p1 p3 (by omega)
  have e4 := ent_any (j := 60) (k := 2) a3 a4 p2 p4 (by omega)
  exact ⟨⟨e1.2, e2.2, e3.2, e4.2⟩, e1.1, e2.1, e3.1, e4.1⟩

theorem second_ok {a : Tb} {p : Pr} (ha : TB 60 a) (hp : PB 2 p) : PB 64 (onSecond a p) ∧ (EntOk a.a p.a a.b p.b ∧ EntOk a.c p.a a.d p.b ∧ EntOk a.a p.c a.b p.d ∧ EntOk a.c p.c a.d p.d) := by
  obtain ⟨a1, a2, a3, a4⟩ := ha
  obtain ⟨p1, p2, p3, p4⟩ := hp
  have e1 := ent_any (j := 60) (k := 2) a1 a2 p1 p2 (by omega)
  have e2 := ent_any (j := 60) (k := 2) a3 a4 p1 p2 (by omega)
  have e3 := ent_any (j := 60) (k := 2) a1 a2 p3 p4 (by omega)
  have e4 := ent_any (j := 60) (k := 2) a3 a4 p3 p4 (by omega)
  exact ⟨⟨e1.2, e2.2, e3.2, e4.2⟩, e1.1, e2.1, e3.1, e4.1⟩

theorem eql_pair {p : Pr} {k : Nat} (h : PB k p) (hk : k ≤ 127) (w : World) :
    (binOp .eql 45 (.agg #[.complex .f32 p.a.re p.a.im, .complex .f32 p.b.re p.b.im, .complex .f32 p.c.re p.c.im, .complex .f32 p.d.re p.d.im]) (.agg #[.complex .f32 p.a.re p.a.im, .complex .f32 p.b.re p.b.im, .complex .f32 p.c.re p.c.im, .complex .f32 p.d.re p.d.im])).run Try.prog w = .ok (.bool true) w := by
  rw [run_eql_struct]
  rw [run_equalIn_array w 9999 4 1 45 26 _ _ Try.underlying45 (by kernel_rfl)]
  have h0 : ∀ (x y z u : Value) (w : World), (part 26 #[.complex .f32 p.a.re p.a.im, .complex .f32 p.b.re p.b.im, .complex .f32 p.c.re p.c.im, .complex .f32 p.d.re p.d.im] (0 * 1)).run Try.prog w = .ok (.complex .f32 p.a.re p.a.im) w := fun _ _ _ _ _ => by kernel_rfl
  have h1 : ∀ (x y z u : Value) (w : World), (part 26 #[.complex .f32 p.a.re p.a.im, .complex .f32 p.b.re p.b.im, .complex .f32 p.c.re p.c.im, .complex .f32 p.d.re p.d.im] (1 * 1)).run Try.prog w = .ok (.complex .f32 p.b.re p.b.im) w := fun _ _ _ _ _ => by kernel_rfl
  have h2 : ∀ (x y z u : Value) (w : World), (part 26 #[.complex .f32 p.a.re p.a.im, .complex .f32 p.b.re p.b.im, .complex .f32 p.c.re p.c.im, .complex .f32 p.d.re p.d.im] (2 * 1)).run Try.prog w = .ok (.complex .f32 p.c.re p.c.im) w := fun _ _ _ _ _ => by kernel_rfl
  have h3 : ∀ (x y z u : Value) (w : World), (part 26 #[.complex .f32 p.a.re p.a.im, .complex .f32 p.b.re p.b.im, .complex .f32 p.c.re p.c.im, .complex .f32 p.d.re p.d.im] (3 * 1)).run Try.prog w = .ok (.complex .f32 p.d.re p.d.im) w := fun _ _ _ _ _ => by kernel_rfl
  have he : ∀ {z : Cx} (_ : CB k z) (w : World), (Op.equalIn 9999 26 (.complex .f32 z.re z.im) (.complex .f32 z.re z.im)).run Try.prog w = .ok true w := fun {z} h w => by
    have hz := cb_cf h hk
    rw [run_equalIn_complex w 9998 26 .f32 .f32 _ _ _ _ Try.underlying26, ord_same _ hz.1.1 hz.1.2, ord_same _ hz.2.1 hz.2.2]; rfl
  show ((eqElems 9999 26 1 _ _ [0, 1, 2, 3]).run Try.prog w).andThen _ = _
  simp only [eqElems, Sem.run_bind, h0 undef undef undef undef, h1 undef undef undef undef, h2 undef undef undef undef, h3 undef undef undef undef, Result.andThen_ok, he h.1, he h.2.1, he h.2.2.1, he h.2.2.2, Sem.run_ite, Sem.run_pure]
  rfl

/-- One pulse of a list. -/
theorem rd_one {w : World} {b off cap n j c : Nat} {P : Nat → Pu} (h : Rd w (.slice (some ⟨b, off, none⟩) n cap) n P) (hj : j < n) : Rd w (.slice (some ⟨b, off + j * 3, none⟩) 1 c) 1 (fun i => P (j + i)) := by
  obtain ⟨a, cap', hv, h⟩ := h
  injection hv with q1 _ q3
  subst q1 q3
  obtain ⟨b', off', q5, hl, hc⟩ := h (by omega)
  injection q5 with q5
  injection q5 with q6 q7
  subst q6 q7
  refine ⟨_, c, rfl, fun _ => ⟨b, off + j * 3, rfl, hl, fun i hi => ?_⟩⟩
  have hi0 : i = 0 := by omega
  subst hi0
  obtain ⟨c0, c1, c2⟩ := hc j hj
  exact ⟨c0, c1, c2⟩

theorem seq_one {n j : Nat} {P : Nat → Pu} (h : seqB n P = true) (hj : j < n) : seqB 1 (fun i => P (j + i)) = true := by
  unfold seqB at h ⊢
  simp only [Bool.and_eq_true, List.all_eq_true, List.mem_range, decide_eq_true_eq] at h ⊢
  exact ⟨fun i hi => h.1 _ (by omega), by omega⟩
theorem code_below {W W' : World} {c : Value} {len : Nat} (h : Code W c len) (hb : Below W.heap.size W W') : Code W' c len := by
  obtain ⟨a, cap, rfl, h⟩ := h
  refine ⟨a, cap, rfl, fun h0 => ?_⟩
  obtain ⟨b, off, rfl, hl, hz⟩ := h h0
  refine ⟨b, off, rfl, Nat.lt_of_lt_of_le hl hb.size, fun j h1 h2 => ?_⟩
  obtain ⟨z, hc, h3, h4⟩ := hz j h1 h2
  exact ⟨z, (hb.cell (p := ⟨b, off + j.toNat, none⟩) hl).trans hc, h3, h4⟩

theorem Src.below {W0 : World} {c : Value} {len B : Nat} {w w' : World} (h : Src W0 c len B w) (hb : Below w.heap.size w w') : Src W0 c len B w' := by
  obtain ⟨a, b, d, e, ⟨k, g, f1, f2, f3, f4⟩, f5, f6⟩ := h
  refine ⟨a.trans (hb.mono a.size), b, Nat.lt_of_lt_of_le d hb.size, ?_, ⟨k, g, ?_, ?_, f3, f4⟩, ?_, ?_⟩
  · exact (hb.cell (p := ⟨B, 0, none⟩) d).trans e
  · exact (hb.cell (p := ⟨B, 1, none⟩) d).trans f1
  · exact (hb.cell (p := ⟨B, 2, none⟩) d).trans f2
  · exact (hb.frozen (p := ⟨B, 1, none⟩) d).trans f5
  · exact (hb.frozen (p := ⟨B, 2, none⟩) d).trans f6

theorem TC.only {w w' : World} {B b : Nat} {t : Tb} (h : TC w b t) (ho : Only B w w') (hb : b ≠ B) : TC w' b t := by
  have e := ho.2 b hb
  exact ⟨(World.cell?_of_block (a := ⟨b, 0, none⟩) e).trans h.c0, (World.cell?_of_block (a := ⟨b, 1, none⟩) e).trans h.c1, (World.cell?_of_block (a := ⟨b, 2, none⟩) e).trans h.c2, (World.cell?_of_block (a := ⟨b, 3, none⟩) e).trans h.c3,
    (World.frozen?_of_block (a := ⟨b, 0, none⟩) e).trans h.f0, (World.frozen?_of_block (a := ⟨b, 1, none⟩) e).trans h.f1, (World.frozen?_of_block (a := ⟨b, 2, none⟩) e).trans h.f2, (World.frozen?_of_block (a := ⟨b, 3, none⟩) e).trans h.f3, by rw [ho.1]; exact h.lt⟩

def Tb.set (t : Tb) (z : Cx) : Nat → Tb
  | 0 => ⟨z, t.b, t.c, t.d⟩
  | 1 => ⟨t.a, z, t.c, t.d⟩
  | 2 => ⟨t.a, t.b, z, t.d⟩
  | _ => ⟨t.a, t.b, t.c, z⟩

theorem TC.set {W : World} {B k : Nat} {t : Tb} (h : TC W B t) (hk : k < 4) (z : Cx) : TC (W.setCell ⟨B, k, none⟩ (.complex .f32 z.re z.im)) B (t.set z k) := by
  have o : ∀ (i j : Nat) (v : Value), i ≠ j → (W.setCell ⟨B, i, none⟩ v).cell? ⟨B, j, none⟩ = W.cell? ⟨B, j, none⟩ := fun i j v hij => World.cell?_setCell_other W ⟨B, i, none⟩ ⟨B, j, none⟩ v (by intro e; injection e with _ e _; exact hij e)
  have s : ∀ (i : Nat) (v : Value) {x : Value}, W.cell? ⟨B, i, none⟩ = some x → (W.setCell ⟨B, i, none⟩ v).cell? ⟨B, i, none⟩ = some v := fun i v x hx => World.cell?_setCell_same W ⟨B, i, none⟩ v hx
  have hk4 : k = 0 ∨ k = 1 ∨ k = 2 ∨ k = 3 := by omega
  rcases hk4 with rfl | rfl | rfl | rfl
  · exact ⟨s _ _ h.c0, (o _ _ _ (by omega)).trans h.c1, (o _ _ _ (by omega)).trans h.c2, (o _ _ _ (by omega)).trans h.c3, by simp [h.f0], by simp [h.f1], by simp [h.f2], by simp [h.f3], by have := h.lt; simpa using this⟩
  · exact ⟨(o _ _ _ (by omega)).trans h.c0, s _ _ h.c1, (o _ _ _ (by omega)).trans h.c2, (o _ _ _ (by omega)).trans h.c3, by simp [h.f0], by simp [h.f1], by simp [h.f2], by simp [h.f3], by have := h.lt; simpa using this⟩
  · exact ⟨(o _ _ _ (by omega)).trans h.c0, (o _ _ _ (by omega)).trans h.c1, s _ _ h.c2, (o _ _ _ (by omega)).trans h.c3, by simp [h.f0], by simp [h.f1], by simp [h.f2], by simp [h.f3], by have := h.lt; simpa using this⟩
  · exact ⟨(o _ _ _ (by omega)).trans h.c0, (o _ _ _ (by omega)).trans h.c1, (o _ _ _ (by omega)).trans h.c2, s _ _ h.c3, by simp [h.f0], by simp [h.f1], by simp [h.f2], by simp [h.f3], by have := h.lt; simpa using this⟩

theorem TC.at {W : World} {B k : Nat} {t : Tb} (h : TC W B t) (hk : k < 4) : (∃ v, W.cell? ⟨B, k, none⟩ = some v) ∧ W.frozen? ⟨B, k, none⟩ = false := by
  have hk4 : k = 0 ∨ k = 1 ∨ k = 2 ∨ k = 3 := by omega
  rcases hk4 with rfl | rfl | rfl | rfl
  · exact ⟨⟨_, h.c0⟩, h.f0⟩
  · exact ⟨⟨_, h.c1⟩, h.f1⟩
  · exact ⟨⟨_, h.c2⟩, h.f2⟩
  · exact ⟨⟨_, h.c3⟩, h.f3⟩

theorem set_tb {t : Tb} {z : Cx} {j : Int} (k : Nat) (h : TB j t) (hz : CB j z) : TB j (t.set z k) := by
  obtain ⟨h1, h2, h3, h4⟩ := h
  match k with
  | 0 => exact ⟨hz, h2, h3, h4⟩
  | 1 => exact ⟨h1, hz, h3, h4⟩
  | 2 => exact ⟨h1, h2, hz, h4⟩
  | _ + 3 => exact ⟨h1, h2, h3, hz⟩

theorem nil_tb : TB 2 nilTb := by
  have z : Bd 2 0 := bd_mono bd_null.1 (by omega)
  exact ⟨⟨z, z⟩, ⟨z, z⟩, ⟨z, z⟩, ⟨z, z⟩⟩

end Go.Proofs.Ytlglbinalocilaa
