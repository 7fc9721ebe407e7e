/- A scope with several labels: what holds at each jump, and a measure that each pass from a label lowers. -/
import Derived.Test.YtdcjnklagklckaaDoorChecked
import Derived.ScopeJumps
import Derived.ControlIn
namespace Go.Proofs.YtdcjnklagklckaaDoor
set_option linter.unusedVariables false

/-- As Q; by a goto to label l: J l. -/
def AtLabel (J : Nat → Act → World → Prop) (Q : Exit → Act → World → Prop) : Exit → Act → World → Prop
  | .goto l, a, w => J l a w
  | e, a, w => Q e a w

theorem wp_scope_labels {P : Program} {a : Act} {w : World} {Q : Exit → Act → World → Prop} {c : Code} (rest : Nat → Code) (J : Nat → Act → World → Prop) (μ : Nat → Act → World → Nat)
    (hf : ∀ l a w, J l a w → findLabel c l = some (rest l)) (first : c.wp P (AtLabel J Q) a w)
    (pass : ∀ l a w, J l a w → (rest l).wp P (AtLabel (fun l' a' w' => J l' a' w' ∧ μ l' a' w' < μ l a w) Q) a w) : (Code.scope c).wp P Q a w := by
  intro b k cs
  have again : ∀ n l a w, μ l a w = n → J l a w → ∃ e a' w', Q e a' w' ∧ Arrives P (lone (b.at a (.code (rest l) :: .inScope c :: k)) cs w) b k cs e a' w' := by
    intro n
    induction n using Nat.strongRecOn with
    | _ n ih =>
      intro l a w hn hJ
      obtain ⟨e, a1, w1, hq, har⟩ := pass l a w hJ b (.inScope c :: k) cs
      cases e with
      | goto l' =>
        obtain ⟨hJ', hlt⟩ := hq
        obtain ⟨e2, a2, w2, hq2, har2⟩ := ih _ (by omega) l' a1 w1 rfl hJ'
        exact ⟨e2, a2, w2, hq2, .of_steps (har _ (by simp [gotoIn, hf l' a1 w1 hJ'])) har2⟩
      | normal => exact ⟨.normal, a1, w1, hq, Steps.trans har (.one step_inScope)⟩
      | exit id => exact ⟨.exit id, a1, w1, hq, fun k' hk => har k' (by simp [exitTo, hk])⟩
      | ret => exact ⟨.ret, a1, w1, hq, har⟩
      | panic ch => exact ⟨.panic ch, a1, w1, hq, har⟩
      | outgrown => exact ⟨.outgrown, a1, w1, hq, har⟩
  obtain ⟨e, a1, w1, hq, har⟩ := first b (.inScope c :: k) cs
  cases e with
  | goto l' =>
    obtain ⟨e2, a2, w2, hq2, har2⟩ := again _ l' a1 w1 rfl hq
    exact ⟨e2, a2, w2, hq2, .of_steps (.head step_scope (har _ (by simp [gotoIn, hf l' a1 w1 hq]))) har2⟩
  | normal => exact ⟨.normal, a1, w1, hq, .head step_scope (Steps.trans har (.one step_inScope))⟩
  | exit id => exact ⟨.exit id, a1, w1, hq, fun k' hk => .head step_scope (har k' (by simp [exitTo, hk]))⟩
  | ret => exact ⟨.ret, a1, w1, hq, .of_steps (.one step_scope) har⟩
  | panic ch => exact ⟨.panic ch, a1, w1, hq, .of_steps (.one step_scope) har⟩
  | outgrown => exact ⟨.outgrown, a1, w1, hq, .of_steps (.one step_scope) har⟩

/-- What stands behind label l. -/
def behind (c : Code) (l : Nat) : Code := match findLabel c l with
  | some (.seq .skip x) => x
  | _ => .skip

theorem AtLabel.weaken {J J' : Nat → Act → World → Prop} {Q : Exit → Act → World → Prop} (h : ∀ l a w, J l a w → J' l a w) : ∀ e a w, AtLabel J Q e a w → AtLabel J' Q e a w := by
  intro e a w he
  cases e with
  | goto l' => exact h _ _ _ he
  | normal => exact he
  | exit id => exact he
  | ret => exact he
  | panic ch => exact he
  | outgrown => exact he

/-- The same at the wide fence; what stands behind a label is read off the code; whoever comes to a label by going on, not by a jump, has what is known of it. -/
theorem wpIn_scope_labels {n : Nat} {P : Program} {a : Act} {w : World} {Q : Exit → Act → World → Prop} {c : Code} (J : Nat → Act → World → Prop) (μ : Nat → Act → World → Nat)
    (hf : ∀ l a w, J l a w → findLabel c l = some (.seq .skip (behind c l)))
    (first : (∀ l a w, J l a w → (behind c l).wpIn Fence.wide n P (AtLabel J Q) a w) → c.wpIn Fence.wide n P (AtLabel J Q) a w)
    (pass : ∀ l a w, J l a w →
      (∀ l' a' w', J l' a' w' → μ l' a' w' < μ l a w → (behind c l').wpIn Fence.wide n P (AtLabel (fun l'' a'' w'' => J l'' a'' w'' ∧ μ l'' a'' w'' < μ l a w) Q) a' w') →
      (behind c l).wpIn Fence.wide n P (AtLabel (fun l' a' w' => J l' a' w' ∧ μ l' a' w' < μ l a w) Q) a w) : (Code.scope c).wpIn Fence.wide n P Q a w := by
  have all : ∀ m l a w, μ l a w = m → J l a w → (behind c l).wpIn Fence.wide n P (AtLabel (fun l' a' w' => J l' a' w' ∧ μ l' a' w' < μ l a w) Q) a w := by
    intro m
    induction m using Nat.strongRecOn with
    | _ m ih =>
      intro l a w hm hJ
      exact pass l a w hJ fun l' a' w' hJ' hlt => wpIn_mono (ih _ (by omega) l' a' w' rfl hJ') (AtLabel.weaken fun _ _ _ h => ⟨h.1, Nat.lt_trans h.2 hlt⟩)
  refine wpIn_wide.2 (wp_scope_labels (fun l => .seq .skip (behind c l)) J μ hf (wpIn_wide.1 (first fun l a w hJ => wpIn_mono (all _ l a w rfl hJ) (AtLabel.weaken fun _ _ _ h => h.1))) fun l a w hJ => ?_)
  have h := all _ l a w rfl hJ
  exact wpIn_wide.1 (wpIn_seq (wpIn_skip h))
end Go.Proofs.YtdcjnklagklckaaDoor
