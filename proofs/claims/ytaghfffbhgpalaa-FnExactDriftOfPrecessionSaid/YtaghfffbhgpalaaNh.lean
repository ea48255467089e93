/- The norm of a step: at most a fifth above 1. -/
import Derived.Test.YtaghfffbhgpalaaKak
import Derived.Test.YtaghfffbhgpalaaG2
import Derived.Test.YtaghfffbhgpalaaDt
namespace Go.Proofs.Ytaghfffbhgpalaa
open Go.RowKit

theorem sum_low {v a b : Int} (ha : 0 ≤ a) (hb : 0 ≤ b) (h : (v - (a + b)).natAbs * 1024 ≤ (a + b).natAbs + 1024) : 1023 * (a.natAbs + b.natAbs) ≤ 1024 * v.natAbs + 1024 := by
  rw [Nat.mul_comm] at h
  obtain ⟨A, rfl⟩ : ∃ A : Nat, a = A := ⟨a.natAbs, by omega⟩
  obtain ⟨B, rfl⟩ : ∃ B : Nat, b = B := ⟨b.natAbs, by omega⟩
  rw [← Int.natCast_add, Int.natAbs_natCast] at h
  rw [Int.natAbs_natCast, Int.natAbs_natCast]
  have h2 : A + B ≤ v.natAbs + (v - ((A + B : Nat) : Int)).natAbs := by omega
  generalize (v - ((A + B : Nat) : Int)).natAbs = e at *
  generalize v.natAbs = V at *
  omega

theorem mul_sq {X F A Z : Nat} (h : X * Z * 1024 ≤ F * A * 1025 + 1024 * Z) : 1000 * (X * X * (Z * Z)) ≤ 1013 * (F * F * (A * A)) + 101000 * (Z * Z) := by
  have := sqA h
  have e1 : X * Z * 1024 * (X * Z * 1024) = 1048576 * (X * X * (Z * Z)) := by grind
  have e2 : F * A * 1025 * (F * A * 1025) = 1050625 * (F * F * (A * A)) := by grind
  have e3 : 1024 * Z * (1024 * Z) = 1048576 * (Z * Z) := by grind
  rw [e1, e2, e3] at this
  generalize X * X * (Z * Z) = a at *
  generalize F * F * (A * A) = b at *
  generalize Z * Z = c at *
  omega

theorem quo_sq {F D H Z : Nat} (h : F * D * 1024 ≤ H * Z * 1026 + 1024 * D) : 1000 * (F * F * (D * D)) ≤ 1014 * (H * H * (Z * Z)) + 101000 * (D * D) := by
  have := sqA h
  have e1 : F * D * 1024 * (F * D * 1024) = 1048576 * (F * F * (D * D)) := by grind
  have e2 : H * Z * 1026 * (H * Z * 1026) = 1052676 * (H * H * (Z * Z)) := by grind
  have e3 : 1024 * D * (1024 * D) = 1048576 * (D * D) := by grind
  rw [e1, e2, e3] at this
  generalize F * F * (D * D) = a at *
  generalize H * H * (Z * Z) = b at *
  generalize D * D = c at *
  omega

theorem half_sq {H K : Nat} (h : H * 1023 ≤ 2048 * K + 2048) : 1000 * (H * H) ≤ 4050 * (K * K) + 405000 := by
  have := sqA h
  have e1 : H * 1023 * (H * 1023) = 1046529 * (H * H) := by grind
  have e2 : 2048 * K * (2048 * K) = 4194304 * (K * K) := by grind
  have e3 : (2048 : Nat) * 2048 = 4194304 := by decide
  rw [e1, e2, e3] at this
  generalize H * H = a at *
  generalize K * K = b at *
  omega

theorem sub_sq {G R : Nat} (h : G * 1024 ≤ R * 1025 + 1024) : 1000 * (G * G) ≤ 1013 * (R * R) + 101000 := by
  have := sqA h
  have e1 : G * 1024 * (G * 1024) = 1048576 * (G * G) := by grind
  have e2 : R * 1025 * (R * 1025) = 1050625 * (R * R) := by grind
  have e3 : (1024 : Nat) * 1024 = 1048576 := by decide
  rw [e1, e2, e3] at this
  generalize G * G = a at *
  generalize R * R = b at *
  omega

theorem add_sq {S D : Nat} (h : 1023 * S ≤ 1024 * D + 1024) : 1000 * (S * S) ≤ 1013 * (D * D) + 102000 := by
  have := sqA h
  have e1 : 1023 * S * (1023 * S) = 1046529 * (S * S) := by grind
  have e2 : 1024 * D * (1024 * D) = 1048576 * (D * D) := by grind
  have e3 : (1024 : Nat) * 1024 = 1048576 := by decide
  rw [e1, e2, e3] at this
  generalize S * S = a at *
  generalize D * D = b at *
  omega

theorem low_one {K KK Z : Nat} (h : K * 1023 ≤ KK * Z * 1024 + 1024 * Z) : 1000 * K ≤ 1001 * ((KK + 1) * Z) := by
  have e : (KK + 1) * Z = KK * Z + Z := by grind
  rw [e]
  rw [Nat.mul_comm K, Nat.mul_comm (KK * Z)] at h
  generalize KK * Z = a at *
  omega

theorem low_sum {A0 A1 A2 P0 P1 P2 S1 SQ Z : Nat} (h0 : A0 * 1023 ≤ P0 * Z * 1024 + 1024 * Z) (h1 : A1 * 1023 ≤ P1 * Z * 1024 + 1024 * Z) (h2 : A2 * 1023 ≤ P2 * Z * 1024 + 1024 * Z) (g1 : 1023 * (P0 + P1) ≤ 1024 * S1 + 1024) (g2 : 1023 * (S1 + P2) ≤ 1024 * SQ + 1024) :
    10000 * (A0 + A1 + A2) ≤ (10031 * SQ + 52000) * Z := by
  have k1 := Nat.mul_le_mul_right Z g1
  have k2 := Nat.mul_le_mul_right Z g2
  have e1 : 1023 * (P0 + P1) * Z = 1023 * (P0 * Z) + 1023 * (P1 * Z) := by grind
  have e2 : (1024 * S1 + 1024) * Z = 1024 * (S1 * Z) + 1024 * Z := by grind
  have e3 : 1023 * (S1 + P2) * Z = 1023 * (S1 * Z) + 1023 * (P2 * Z) := by grind
  have e4 : (1024 * SQ + 1024) * Z = 1024 * (SQ * Z) + 1024 * Z := by grind
  have e5 : (10031 * SQ + 52000) * Z = 10031 * (SQ * Z) + 52000 * Z := by grind
  rw [e1, e2] at k1
  rw [e3, e4] at k2
  rw [e5]
  rw [Nat.mul_comm A0, Nat.mul_comm (P0 * Z)] at h0
  rw [Nat.mul_comm A1, Nat.mul_comm (P1 * Z)] at h1
  rw [Nat.mul_comm A2, Nat.mul_comm (P2 * Z)] at h2
  generalize P0 * Z = p0 at *
  generalize P1 * Z = p1 at *
  generalize P2 * Z = p2 at *
  generalize S1 * Z = s1 at *
  generalize SQ * Z = sq at *
  clear g1 g2 e1 e2 e3 e4 e5
  omega

theorem diff_sq (Z Q : Nat) : (Z + Q) * (Z + Q) = ((Z : Int) - (Q : Int)).natAbs * ((Z : Int) - (Q : Int)).natAbs + 4 * (Z * Q) := by
  rcases Nat.le_total Z Q with h | h
  · obtain ⟨D, rfl⟩ := Nat.exists_eq_add_of_le h
    have e : ((Z : Int) - ((Z + D : Nat) : Int)).natAbs = D := by omega
    rw [e]; grind
  · obtain ⟨D, rfl⟩ := Nat.exists_eq_add_of_le h
    have e : (((Q + D : Nat) : Int) - (Q : Int)).natAbs = D := by omega
    rw [e]; grind

theorem vl_one : Vl 1065353216 (ZZ : Int) := ⟨false, 1, 0, by decide +kernel, fitS_pow 0 (by omega) (by omega), by unfold ZZ; decide +kernel⟩

theorem field_sq {e : Nat} {v : Int} (h : Vl e v) (hb : Bd 64 e) : v.natAbs * v.natAbs ≤ 2 ^ 128 * (ZZ * ZZ) := by
  have h1 := bd_vl h hb (by omega) (by omega)
  have e1 : (2 : Nat) ^ ((64 : Int) + 149).toNat = 2 ^ 64 * ZZ := by unfold ZZ; rw [← Nat.pow_add]; congr 1
  rw [e1] at h1
  have h2 := Nat.mul_le_mul h1 h1
  have e2 : 2 ^ 64 * ZZ * (2 ^ 64 * ZZ) = 2 ^ 64 * 2 ^ 64 * (ZZ * ZZ) := by ac_rfl
  have e3 : (2 : Nat) ^ 64 * 2 ^ 64 = 2 ^ 128 := by rw [← Nat.pow_add]
  rw [e2, e3] at h2
  exact h2

theorem sq_cast (w x y z : Int) (N : Nat) (h : 5 * (w.natAbs * w.natAbs + (x.natAbs * x.natAbs + y.natAbs * y.natAbs + z.natAbs * z.natAbs)) ≤ 6 * (N * N)) : 5 * (w * w + x * x + y * y + z * z) ≤ 6 * ((N : Int) * (N : Int)) := by
  rw [← nat_sq w, ← nat_sq x, ← nat_sq y, ← nat_sq z]
  have h' : ((5 * (w.natAbs * w.natAbs + (x.natAbs * x.natAbs + y.natAbs * y.natAbs + z.natAbs * z.natAbs)) : Nat) : Int) ≤ ((6 * (N * N) : Nat) : Int) := by exact_mod_cast h
  push_cast at h'
  omega

theorem stp_norm {a b c h k kk sq q d g f s x y z : Nat} (ha : Num a) (hb : Num b) (hc : Num c) (hh : Num h) (S : Stp a b c h k kk sq q d g f s x y z) :
    ∃ w vx vy vz : Int, Vl s w ∧ Vl x vx ∧ Vl y vy ∧ Vl z vz ∧ 5 * (w * w + vx * vx + vy * vy + vz * vz) ≤ 6 * (ZI * ZI) := by
  obtain ⟨va, Va⟩ := vl_of a ha.1 ha.2
  obtain ⟨vb, Vb⟩ := vl_of b hb.1 hb.2
  obtain ⟨vc, Vc⟩ := vl_of c hc.1 hc.2
  obtain ⟨vh, Vh⟩ := vl_of h hh.1 hh.2
  obtain ⟨p0, p1, p2, s1, t, SQ⟩ := sqs_of ha hb hc
  have et : t = sq := by
    have e3 : sqO a b c = some t := SQ.e
    exact Option.some.inj (e3.symm.trans S.qsq)
  subst et
  have l0 := floatBits_lt SQ.m0
  have l1 := floatBits_lt SQ.m1
  have l2 := floatBits_lt SQ.m2
  have l3 := floatBits_lt SQ.s1
  obtain ⟨fs1, fp2⟩ := fin_of (.inl rfl) l3 l2 SQ.s2 S.fsq.2
  obtain ⟨fp0, fp1⟩ := fin_of (.inl rfl) l0 l1 SQ.s1 fs1
  have n0 := sq_nonneg ha.1 ha.2 SQ.m0 fp0
  have n1 := sq_nonneg hb.1 hb.2 SQ.m1 fp1
  have n2 := sq_nonneg hc.1 hc.2 SQ.m2 fp2
  have nkk := sq_nonneg S.fk.1 S.fk.2 S.qkk S.fkk.2
  obtain ⟨vk, Vk, hK⟩ := half_near Vh S.qk S.fk.2
  obtain ⟨vkk, Vkk, _, hKK⟩ := mul_near Vk Vk S.qkk S.fkk.2
  obtain ⟨vp0, Vp0, _, hP0⟩ := mul_near Va Va SQ.m0 fp0
  obtain ⟨vp1, Vp1, _, hP1⟩ := mul_near Vb Vb SQ.m1 fp1
  obtain ⟨vp2, Vp2, _, hP2⟩ := mul_near Vc Vc SQ.m2 fp2
  have es1 : sm p0 p1 = s1 := by unfold sm; rw [SQ.s1]; rfl
  have esq : sm s1 p2 = t := by unfold sm; rw [SQ.s2]; rfl
  have ed : sm 1065353216 q = d := by unfold sm; rw [S.qd]; rfl
  have ns1 : s1 < 2147483648 := by rw [← es1]; exact (add_up p0 p1 n0 n1).2.2.2
  have ns1' : s1 < 2139095040 := by
    have h1 : mag s1 < 2139095040 := of_decide_eq_true fs1
    rwa [mag_self ns1] at h1
  have nsq : t < 2147483648 := by rw [← esq]; exact (add_up s1 p2 ns1' n2).2.2.2
  have nsq' : t < 2139095040 := by
    have h1 : mag t < 2139095040 := of_decide_eq_true S.fsq.2
    rwa [mag_self nsq] at h1
  have nq : q < 2139095040 := nonneg_mul nkk nsq' S.qq S.fq.2
  obtain ⟨vs1, Vs1, hS1⟩ := sm_near Vp0 Vp1 (by rw [es1]; exact fs1)
  rw [es1] at Vs1
  obtain ⟨vsq, Vsq, hSQ⟩ := sm_near Vs1 Vp2 (by rw [esq]; exact S.fsq.2)
  rw [esq] at Vsq
  obtain ⟨vq, Vq, _, hQ⟩ := mul_near Vkk Vsq S.qq S.fq.2
  obtain ⟨vd, Vd, hD⟩ := sm_near vl_one Vq (by rw [ed]; exact S.fd.2)
  rw [ed] at Vd
  obtain ⟨vg, Vg, hG⟩ := sub_near vl_one Vq (by omega) nq S.qg S.fg.2
  have zq := vl_nn Vq (by omega)
  have g1 := sum_low (vl_nn Vp0 (by omega)) (vl_nn Vp1 (by omega)) hS1
  have g2 := sum_low (vl_nn Vs1 ns1) (vl_nn Vp2 (by omega)) hSQ
  have g3 := sum_low (by omega) zq hD
  have hZ1 : 1 ≤ ZZ := Nat.two_pow_pos _
  have hZbig : 1024 * 1024 ≤ ZZ := by unfold ZZ; decide +kernel
  have hd0 : vd ≠ 0 := by
    rintro rfl
    rw [Int.natAbs_natCast, Int.natAbs_zero] at g3
    generalize ZZ = Z at *
    omega
  obtain ⟨vf, Vf, hF⟩ := quo_near Vh Vd hd0 S.qf S.ff.2
  obtain ⟨vw, Vw, hW⟩ := quo_near Vg Vd hd0 S.qw S.fw.2
  obtain ⟨vx, Vx, hX, _⟩ := mul_near Vf Va S.qx S.fx.2
  obtain ⟨vy, Vy, hY, _⟩ := mul_near Vf Vb S.qy S.fy.2
  obtain ⟨vz, Vz, hZ, _⟩ := mul_near Vf Vc S.qz S.fz.2
  refine ⟨vw, vx, vy, vz, Vw, Vx, Vy, Vz, ?_⟩
  have ba := field_sq Va (root_bd ha.1 ha.2 SQ.m0 fp0)
  have bb := field_sq Vb (root_bd hb.1 hb.2 SQ.m1 fp1)
  have bc := field_sq Vc (root_bd hc.1 hc.2 SQ.m2 fp2)
  have bkk := vl_small Vkk S.fkk.2
  have bsq := vl_small Vsq S.fsq.2
  have hTZ : 2097152 * 2 ^ 128 = ZZ := by unfold ZZ; decide +kernel
  have i1 := mul_sq hX
  have i1' := mul_sq hY
  have i1'' := mul_sq hZ
  have i2 := quo_sq hF
  have i3 := quo_sq hW
  have i4 := half_sq hK
  have i5 := low_one hKK
  have i6 := low_sum hP0 hP1 hP2 g1 g2
  have i7 := low_one hQ
  have i8 := sub_sq hG
  rw [Int.natAbs_natCast] at g3
  have i9 := add_sq g3
  have eq : (vq.natAbs : Int) = vq := by omega
  have i10 := diff_sq ZZ vq.natAbs
  rw [eq] at i10
  refine sq_cast vw vx vy vz ZZ ?_
  clear hX hY hZ hF hW hK hKK hP0 hP1 hP2 g1 g2 hQ hG g3 hD hS1 hSQ
  clear Va Vb Vc Vh Vk Vkk Vp0 Vp1 Vp2 Vs1 Vsq Vq Vd Vg Vf Vw Vx Vy Vz S SQ
  generalize vx.natAbs = X0 at *
  generalize vy.natAbs = X1 at *
  generalize vz.natAbs = X2 at *
  generalize vw.natAbs = W at *
  generalize vf.natAbs = F at *
  generalize va.natAbs = A0 at *
  generalize vb.natAbs = A1 at *
  generalize vc.natAbs = A2 at *
  generalize vd.natAbs = D at *
  generalize vg.natAbs = G at *
  generalize vh.natAbs = H at *
  generalize vk.natAbs = K at *
  generalize vkk.natAbs = KK at *
  generalize vsq.natAbs = SQ at *
  generalize ((ZZ : Int) - vq).natAbs = R at *
  generalize vq.natAbs = Q at *
  generalize (2 : Nat) ^ 128 = T at *
  generalize ZZ = Z at *
  have hs : Z * Z ≤ (Z + Q) * (Z + Q) := Nat.mul_le_mul (by omega) (by omega)
  refine norm_end (x := X0 * X0 + X1 * X1 + X2 * X2) (w := W * W) (f := F * F) (a := A0 * A0 + A1 * A1 + A2 * A2) (d := D * D) (g := G * G) (h := H * H) (k := K * K) (KK := KK) (SQ := SQ) (Q := Q) (r := R * R) (s := (Z + Q) * (Z + Q)) (T := T) (z := Z * Z) (Z := Z) ?_ i2 i3 i4 i5 i6 i7 i8 i9 i10 rfl hs ?_ bkk bsq hTZ (by omega)
  · have e1 : (X0 * X0 + X1 * X1 + X2 * X2) * (Z * Z) = X0 * X0 * (Z * Z) + X1 * X1 * (Z * Z) + X2 * X2 * (Z * Z) := by grind
    have e2 : F * F * (A0 * A0 + A1 * A1 + A2 * A2) = F * F * (A0 * A0) + F * F * (A1 * A1) + F * F * (A2 * A2) := by grind
    rw [e1, e2]
    generalize X0 * X0 * (Z * Z) = x0 at *
    generalize X1 * X1 * (Z * Z) = x1 at *
    generalize X2 * X2 * (Z * Z) = x2 at *
    generalize F * F * (A0 * A0) = a0 at *
    generalize F * F * (A1 * A1) = a1 at *
    generalize F * F * (A2 * A2) = a2 at *
    clear i2 i3 i4 i5 i6 i7 i8 i9 i10 hs ba bb bc bkk bsq hTZ
    generalize Z * Z = zz at *
    omega
  · clear i1 i1' i1'' i2 i3 i4 i5 i6 i7 i8 i9 i10 hs bkk bsq hTZ
    generalize T * (Z * Z) = tz at *
    generalize A0 * A0 = a0 at *
    generalize A1 * A1 = a1 at *
    generalize A2 * A2 = a2 at *
    omega

end Go.Proofs.Ytaghfffbhgpalaa
