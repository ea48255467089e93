/- The law of CompensatedSum, over what the program answers. -/
import Derived.Test.YtibmaflcfmphgaaCs2
import Derived.Test.YtibmaflcfmphgaaCs3
import Derived.Test.YtibmaflcfmphgaaP4
namespace Go.Proofs.Ytibmaflcfmphgaa
open Go.RowKit

/-- What the law wants of the program. -/
def CompOk : Prop := ∀ (w : World) (v : Value) (n : Nat) (P : Nat → Nat), RdV w v n (fun i => .float .f32 (P i)) → n ≤ 1048576 → (∀ i, i < n → P i < 4294967296) →
  Calls Try.prog 6 #[v] w fun e w' => e = .returned (csRes n P) ∧ Below w.heap.size w w'

set_option maxRecDepth 100000 in
set_option maxHeartbeats 2000000 in
theorem law_comp (HC : CompOk) {W : World} {v : Value} {n : Nat} {P : Nat → Nat} (h : RdF W v n P) (hn : n ≤ maxLen) (hP : ∀ i, i < n → P i < 4294967296) :
    Calls Try.prog 3 #[v] W fun e w' => e = .returned (.bool true) ∧ Below W.heap.size W w' := by
  obtain ⟨a, cap, hv, _⟩ := id h
  by_cases hbig : n ≤ 1048576
  · have hb1 : ¬ ((1048576 : Int) < (n : Int)) := by omega
    have H := Lib.hid h
    obtain ⟨x, c, hform, hx, hf⟩ := csRes_form (n := n) (P := P)
    have IM := Lib.hid (fun (w : World) (v : Value) (g : RdV w v n (fun i => .float .f32 (P i))) => by have := HC w v n P g hbig hP; rw [hform] at this; exact this)
    have SP := Lib.hid (fun (w : World) (v : Value) (g : RdV w v n (fun i => .float .f32 (P i))) => by have := specComp_ok g hbig hP; rw [hform] at this; exact this)
    have EQ := Lib.hid (fun (w : World) (v v' : Value) (g : RdV w v n (fun i => .float .f32 (P i))) (g' : RdV w v' n (fun i => .float .f32 (P i))) => eqFloat32S_any g g' hbig hP)
    obtain ⟨y, cv, sm⟩ := same_word x hx hf
    have HSm := Lib.hid sm
    subst hv
    clear h hn hform hx hf sm HC hP
    go_enter Try.func3, Try.ntmps3
    go_wp2_with fail
    refine (toFloat32S_ok H.out hbig).mono ?_
    rintro e w1 ⟨rfl, hb1', hr1⟩
    have H1 := Lib.hid (rdf_below H.out hb1')
    have B1 := Lib.hid hb1'
    have R1 := Lib.hid hr1
    clear hb1' hr1
    go_wp2_with fail
    refine (SP.out _ _ R1.out).mono ?_
    rintro e w2 ⟨rfl, hb2⟩
    have H2 := Lib.hid (rdf_below H1.out hb2)
    have B2 := Lib.hid (B1.out.trans (hb2.mono B1.out.size))
    clear hb2
    go_wp2_with fail
    refine (toFloat32S_ok H2.out hbig).mono ?_
    rintro e w3 ⟨rfl, hb3, hr3⟩
    have H3 := Lib.hid (rdf_below H2.out hb3)
    have B3 := Lib.hid (B2.out.trans (hb3.mono B2.out.size))
    have R3 := Lib.hid hr3
    clear hb3 hr3
    go_wp2_with fail
    refine (IM.out _ _ R3.out).mono ?_
    rintro e w4 ⟨rfl, hb4⟩
    have H4 := Lib.hid (rdf_below H3.out hb4)
    have B4 := Lib.hid (B3.out.trans (hb4.mono B3.out.size))
    have R4 := Lib.hid (rdv_below R3.out hb4)
    clear hb4
    go_wp2_with fail
    refine (HSm.out _).mono ?_
    rintro e w5 ⟨rfl, rfl⟩
    go_wp2_with fail
    refine (toFloat32S_ok H4.out hbig).mono ?_
    rintro e w5 ⟨rfl, hb5, hr5⟩
    have B5 := Lib.hid (B4.out.trans (hb5.mono B4.out.size))
    have E := Lib.hid (EQ.out _ _ _ (rdv_below R4.out hb5) hr5)
    clear hb5 hr5
    go_wp2_with fail
    refine E.out.mono ?_
    rintro e w6 ⟨rfl, hb6⟩
    have B6 := Lib.hid (B5.out.trans (hb6.mono B5.out.size))
    clear hb6
    go_wp2_with fail
    go_ret
    exact ⟨rfl, B6.out⟩
  · have hb1 : (1048576 : Int) < (n : Int) := by omega
    subst hv
    clear h hn hbig HC hP
    go_enter Try.func3, Try.ntmps3
    go_wp2_with fail
    go_ret
    exact ⟨rfl, Below.refl _ _⟩

theorem trod_floatC {H : Type} {enc : TypeId × Value → H} {P : Program} {w : World} {base : Nat} {spare : Nat → Bool} {held : Bool} {fuel : Nat} {t : TypeId} {k : FloatKind} {c : Value} {y : DataW H × List MemPlace} (ht : P.underlying t = some (.float k))
    (h : DataW.trod enc P w base spare held fuel t [c] = some y) : ∃ b, c = .float k b ∧ y = (.lit (.float k b), []) ∧ (Lit.float k b).wf = true := by
  cases fuel with
  | zero => simp [DataW.trod] at h
  | succ n =>
    unfold DataW.trod at h
    rw [ht] at h
    cases c <;> simp at h
    obtain ⟨⟨rfl, hw⟩, rfl⟩ := h
    exact ⟨_, rfl, rfl, hw⟩

set_option maxRecDepth 100000 in
/-- What a slice of float32 that came in holds. -/
theorem open_floats {H : Type} {enc : TypeId × Value → H} {w : World} {held : Bool} {fuel : Nat} {a0 : Option Addr} {len cap : Nat} {x : DataW H × List MemPlace}
    (h : DataW.trod enc Try.prog w 0 (fun _ => true) held fuel 22 [.slice a0 len cap] = some x) : (∃ P, RdF w (.slice a0 len cap) len P ∧ ∀ i, i < len → P i < 4294967296) ∧ len ≤ maxLen := by
  rcases Go.Deep.open_slice Try.underlying22 h with ⟨hcs, _⟩ | ⟨a, l, c, m, n, D, Pl, hcs, _, hl, hm, hmm, _, hx⟩
  · injection hcs with hv _
    injection hv with e1 e2 e3
    subst e1 e2 e3
    exact ⟨⟨fun _ => 0, ⟨none, 0, rfl, fun h0 => absurd h0 (Nat.lt_irrefl _)⟩, fun i hi => absurd hi (Nat.not_lt_zero _)⟩, Nat.zero_le _⟩
  · injection hcs with hv _
    injection hv with e1 e2 e3
    subst e1 e2 e3
    refine ⟨?_, Nat.le_trans hl hm⟩
    have ce : Try.prog.cellsOf 23 = 1 := by kernel_rfl
    simp only [if_true] at hmm
    have each : ∀ i, i < len → ∃ p : Nat, w.cell? (a.add i) = some (.float .f32 p) ∧ p < 4294967296 := by
      intro i hi
      obtain ⟨cs', h1, h2⟩ := hx i (by omega)
      rw [ce] at h1
      obtain ⟨_, hlen, hcell⟩ := World.cells?_some h1
      match cs', hlen with
      | [v0], _ =>
        obtain ⟨x0, q0, _, w0⟩ := trod_floatC Try.underlying23 h2
        have e0 := hcell 0 (by omega)
        rw [Go.Deep.add_add] at e0
        subst q0
        exact ⟨x0, by simpa using e0, by simpa [Lit.wf] using w0⟩
    obtain ⟨P, hP⟩ := Go.Deep.choose_lt (α := Nat) each
    refine ⟨P, ⟨some a, cap, rfl, fun h0 => ?_⟩, fun i hi => (hP i hi).2⟩
    obtain ⟨b, off, spot⟩ := a
    have c0 := (hP 0 h0).1
    have hspot : spot = none := by simpa [Addr.add] using World.cell?_spot c0
    subst hspot
    refine ⟨b, off, rfl, ?_, fun i hi => ?_⟩
    · have := cell_size c0
      simpa [Addr.add] using this
    · obtain ⟨d0, _⟩ := hP i hi
      rw [Go.WideShapes.add_plain] at d0
      exact d0
end Go.Proofs.Ytibmaflcfmphgaa
