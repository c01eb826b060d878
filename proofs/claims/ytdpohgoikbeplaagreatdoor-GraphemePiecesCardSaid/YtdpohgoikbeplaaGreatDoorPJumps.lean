/- Jumps: parts of the proof, joined. -/
import Derived.Scope
namespace Go.Proofs.YtdpohgoikbeplaaGreatDoor.Wt
open Go
def jumpAll (J : Nat -> Act -> World -> Prop) (Q : Exit -> Act -> World -> Prop) : Exit -> Act -> World -> Prop
 | .goto l, a, w => J l a w
 | e, a, w => Q e a w
section
variable {P : Program} {a : Act} {w : World} {Q : Exit -> Act -> World -> Prop}
theorem jumpAll_ret {J : Nat -> Act -> World -> Prop} : jumpAll J Q .ret a w = Q .ret a w := rfl
theorem wp_scope_many {c : Code} (J : Nat -> Act -> World -> Prop) (μ : Nat -> Act -> World -> Nat)
  (pass : ∀ l a w, J l a w -> ∃ rest, findLabel c l = some (Code.skip.seq rest) /\ rest.wp P (jumpAll (fun l' a' w' => J l' a' w' /\ μ l' a' w' < μ l a w) Q) a w)
  (first : (∀ l a w, J l a w -> ∃ rest, findLabel c l = some (Code.skip.seq rest) /\ rest.wp P (jumpAll J Q) a w) -> c.wp P (jumpAll J Q) a w) : (Code.scope c).wp P Q a w := by
 intro b k cs
 have pass' : ∀ l a w, J l a w -> ∃ rest, findLabel c l = some (Code.skip.seq rest) /\ rest.wp P (jumpAll J Q) a w := fun l a w h => by
  obtain ⟨rest, hf, hr⟩ := pass l a w h
  refine ⟨rest, hf, wp_mono hr ?_⟩
  intro e a' w' hq
  cases e <;> first | exact hq.1 | exact hq
 have key : ∀ n l a w, μ l a w = n -> J l a w -> ∃ rest, findLabel c l = some rest /\ ∃ e a' w', Q e a' w' /\ Arrives P (lone (b.at a (.code rest :: .inScope c :: k)) cs w) b k cs e a' w' := by
  intro n
  induction n using Nat.strongRecOn with
  | _ n ih =>
   intro l a w hn hJ
   obtain ⟨rest, hf, hp0⟩ := pass l a w hJ
   have hp : (Code.skip.seq rest).wp P (jumpAll (fun l' a' w' => J l' a' w' /\ μ l' a' w' < μ l a w) Q) a w := wp_seq (wp_skip hp0)
   refine ⟨_, hf, ?_⟩
   obtain ⟨e, a₁, w₁, hq, harr⟩ := hp b (.inScope c :: k) cs
   cases e with
   | normal => exact ⟨.normal, a₁, w₁, hq, Steps.trans harr (.one step_inScope)⟩
   | exit id => exact ⟨.exit id, a₁, w₁, hq, fun k' hk => harr k' (by simp [exitTo, hk])⟩
   | goto l' =>
    obtain ⟨hJ', hlt⟩ := hq
    obtain ⟨rest', hf', e₂, a₂, w₂, hq₂, harr₂⟩ := ih _ (by omega) l' a₁ w₁ rfl hJ'
    have hg : gotoIn l' (.inScope c :: k) = some (.code rest' :: .inScope c :: k) := by simp [gotoIn, hf']
    exact ⟨e₂, a₂, w₂, hq₂, .of_steps (harr _ hg) harr₂⟩
   | ret => exact ⟨_, a₁, w₁, hq, harr⟩
   | panic ch => exact ⟨_, a₁, w₁, hq, harr⟩
   | outgrown => exact ⟨_, a₁, w₁, hq, harr⟩
 obtain ⟨e, a₁, w₁, hq, harr⟩ := first pass' b (.inScope c :: k) cs
 cases e with
 | normal => exact ⟨.normal, a₁, w₁, hq, .head step_scope (Steps.trans harr (.one step_inScope))⟩
 | exit id => exact ⟨.exit id, a₁, w₁, hq, fun k' hk => .head step_scope (harr k' (by simp [exitTo, hk]))⟩
 | goto l' =>
  obtain ⟨rest', hf', e₂, a₂, w₂, hq₂, harr₂⟩ := key _ l' a₁ w₁ rfl hq
  have hg : gotoIn l' (.inScope c :: k) = some (.code rest' :: .inScope c :: k) := by simp [gotoIn, hf']
  exact ⟨e₂, a₂, w₂, hq₂, .of_steps (.head step_scope (harr _ hg)) harr₂⟩
 | ret => exact ⟨_, a₁, w₁, hq, .of_steps (.one step_scope) harr⟩
 | panic ch => exact ⟨_, a₁, w₁, hq, .of_steps (.one step_scope) harr⟩
 | outgrown => exact ⟨_, a₁, w₁, hq, .of_steps (.one step_scope) harr⟩
theorem then_mono {next next' : Act -> World -> Prop} (h : ∀ a w, next a w -> next' a w) : ∀ e a w, Exit.then next Q e a w -> Exit.then next' Q e a w := fun e a w hq => by
 cases e <;> first | exact h _ _ hq | exact hq
theorem first3 {J : Nat -> Act -> World -> Prop} {x1 x2 x3 rest : Code} {l : Nat}
  (hp : ∀ l' a w, J l' a w -> ∃ rest', findLabel (x1.seq (x2.seq (x3.seq ((Code.label l).seq rest)))) l' = some (Code.skip.seq rest') /\ rest'.wp P (jumpAll J Q) a w)
  (h1 : findLabel x1 l = none) (h2 : findLabel x2 l = none) (h3 : findLabel x3 l = none)
  (h : x1.wp P (Exit.then (x2.wp P (Exit.then (x3.wp P (Exit.then (J l) (jumpAll J Q))) (jumpAll J Q))) (jumpAll J Q)) a w) :
  (x1.seq (x2.seq (x3.seq ((Code.label l).seq rest)))).wp P (jumpAll J Q) a w := by
 have hl : ∀ a w, J l a w -> ((Code.label l).seq rest).wp P (jumpAll J Q) a w := fun a w hJ => by
  obtain ⟨r, hf, hr⟩ := hp l a w hJ
  have e : findLabel (x1.seq (x2.seq (x3.seq ((Code.label l).seq rest)))) l = some (Code.skip.seq rest) := by simp [findLabel, h1, h2, h3]
  rw [e] at hf
  have e2 : rest = r := by injection hf with hf; injection hf
  subst e2; exact wp_seq (wp_label hr)
 refine wp_seq (wp_mono h (then_mono fun a w h2 => ?_))
 refine wp_seq (wp_mono h2 (then_mono fun a w h3 => ?_))
 exact wp_seq (wp_mono h3 (then_mono hl))
end
end Go.Proofs.YtdpohgoikbeplaaGreatDoor.Wt
