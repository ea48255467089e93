/- A scope through which a run goes by jumps to several labels. -/
import Derived.Test.YtojcdhnpdinbpaaGreatDoorP3
import Derived.ScopeJumps
namespace Go.Proofs.YtojcdhnpdinbpaaGreatDoor
open Go

/-- As Q; by a goto to a label: what holds there. -/
def ways (J : Nat → Act → World → Prop) (Q : Exit → Act → World → Prop) : Exit → Act → World → Prop
  | .goto l, a, w => J l a w
  | e, a, w => Q e a w

theorem scope_ways {P : Program} {a : Act} {w : World} {Q : Exit → Act → World → Prop} {c : Code} (J : Nat → Act → World → Prop) (μ : Nat → Act → World → Nat)
    (first : c.wp P (ways J Q) a w)
    (pass : ∀ l a w, J l a w → ∃ r, findLabel c l = some r ∧ r.wp P (ways (fun l' a' w' => J l' a' w' ∧ μ l' a' w' < μ l a w) Q) a w) : (Code.scope c).wp P Q a w := by
  intro b k cs
  have at_label : ∀ n l a w r, μ l a w = n → J l a w → findLabel c l = some r → ∃ e a' w', Q e a' w' ∧ Arrives P (lone (b.at a (.code r :: .inScope c :: k)) cs w) b k cs e a' w' := by
    intro n
    induction n using Nat.strongRecOn with
    | _ n ih =>
      intro l a w r hn hJ hr
      obtain ⟨r', hr', hp⟩ := pass l a w hJ
      rw [hr] at hr'
      injection hr' with hr'
      subst hr'
      obtain ⟨e, a₁, w₁, hq, harr⟩ := hp b (.inScope c :: k) cs
      cases e with
      | normal => exact ⟨.normal, a₁, w₁, hq, Steps.trans harr (.one step_inScope)⟩
      | exit id => exact ⟨.exit id, a₁, w₁, hq, fun k' hk => harr k' (by simp [exitTo, hk])⟩
      | goto l' =>
        obtain ⟨hJ', hlt⟩ := hq
        obtain ⟨r2, hr2, _⟩ := pass l' a₁ w₁ hJ'
        obtain ⟨e₂, a₂, w₂, hq₂, harr₂⟩ := ih _ (by omega) l' a₁ w₁ r2 rfl hJ' hr2
        exact ⟨e₂, a₂, w₂, hq₂, .of_steps (harr _ (by simp [gotoIn, hr2])) harr₂⟩
      | ret => exact ⟨_, a₁, w₁, hq, harr⟩
      | panic ch => exact ⟨_, a₁, w₁, hq, harr⟩
      | outgrown => exact ⟨_, a₁, w₁, hq, harr⟩
  obtain ⟨e, a₁, w₁, hq, harr⟩ := first b (.inScope c :: k) cs
  cases e with
  | normal => exact ⟨.normal, a₁, w₁, hq, .head step_scope (Steps.trans harr (.one step_inScope))⟩
  | exit id => exact ⟨.exit id, a₁, w₁, hq, fun k' hk => .head step_scope (harr k' (by simp [exitTo, hk]))⟩
  | goto l' =>
    obtain ⟨r2, hr2, _⟩ := pass l' a₁ w₁ hq
    obtain ⟨e₂, a₂, w₂, hq₂, harr₂⟩ := at_label _ l' a₁ w₁ r2 rfl hq hr2
    exact ⟨e₂, a₂, w₂, hq₂, .of_steps (.head step_scope (harr _ (by simp [gotoIn, hr2]))) harr₂⟩
  | ret => exact ⟨_, a₁, w₁, hq, .of_steps (.one step_scope) harr⟩
  | panic ch => exact ⟨_, a₁, w₁, hq, .of_steps (.one step_scope) harr⟩
  | outgrown => exact ⟨_, a₁, w₁, hq, .of_steps (.one step_scope) harr⟩

/-- Two labels, the second one reached from the first one too. -/
theorem scope_two {P : Program} {a : Act} {w : World} {Q : Exit → Act → World → Prop} {c : Code} (J : Nat → Act → World → Prop) (μ : Nat → Act → World → Nat) (only : ∀ l a w, J l a w → l = 0 ∨ l = 1)
    (meet : ∀ a w, J 1 a w → ∃ r, findLabel c 1 = some (Code.skip.seq r) ∧ r.wp P (ways (fun l' a' w' => J l' a' w' ∧ μ l' a' w' < μ 1 a w) Q) a w)
    (take : (∀ N a w r, J 1 a w → μ 1 a w ≤ N → findLabel c 1 = some (Code.skip.seq r) → r.wp P (ways (fun l' a' w' => J l' a' w' ∧ μ l' a' w' < N) Q) a w) → ∀ a w, J 0 a w → ∃ r, findLabel c 0 = some (Code.skip.seq r) ∧ r.wp P (ways (fun l' a' w' => J l' a' w' ∧ μ l' a' w' < μ 0 a w) Q) a w)
    (first : (∀ a w r, J 0 a w → findLabel c 0 = some (Code.skip.seq r) → r.wp P (ways J Q) a w) → c.wp P (ways J Q) a w) : (Code.scope c).wp P Q a w := by
  have take' := take (fun N a w r hJ hN hr => by
    obtain ⟨r', hr', hp⟩ := meet a w hJ
    rw [hr] at hr'
    injection hr' with hr'
    injection hr' with _ hr'
    subst hr'
    refine Code.wp_mono ?_ hp
    intro e a' w' h
    cases e with
    | goto l => exact ⟨h.1, Nat.lt_of_lt_of_le h.2 hN⟩
    | _ => exact h)
  have pass : ∀ l a w, J l a w → ∃ r, findLabel c l = some r ∧ r.wp P (ways (fun l' a' w' => J l' a' w' ∧ μ l' a' w' < μ l a w) Q) a w := by
    intro l a w hJ
    rcases only l a w hJ with rfl | rfl
    · obtain ⟨r, h1, h2⟩ := take' a w hJ
      exact ⟨_, h1, wp_seq (wp_skip h2)⟩
    · obtain ⟨r, h1, h2⟩ := meet a w hJ
      exact ⟨_, h1, wp_seq (wp_skip h2)⟩
  refine scope_ways J μ (first fun a w r hJ hr => ?_) pass
  obtain ⟨r', hr', hp⟩ := take' a w hJ
  rw [hr] at hr'
  injection hr' with hr'
  injection hr' with _ hr'
  subst hr'
  refine Code.wp_mono ?_ hp
  intro e a' w' h
  cases e with
  | goto l => exact h.1
  | _ => exact h
end Go.Proofs.YtojcdhnpdinbpaaGreatDoor
