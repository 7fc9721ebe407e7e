/- Two hashes and their bytes in memory. -/
import Derived.Test.YtaeicjgkoofmpaaDoorShaV
import Derived.Test.YtaeicjgkoofmpaaDoorHmacQ
import Derived.Deep.CutBlock
namespace Go.Proofs.YtaeicjgkoofmpaaDoor
open Go.RowKit
set_option linter.unusedVariables false
set_option maxRecDepth 100000

/-- Two cells, the k-th of which is a. -/
def pr (k : Nat) (a b : Value) : Array Value := if k = 0 then #[a, b] else #[b, a]
theorem k_cases {k : Nat} (h : k ≤ 1) : k = 0 ∨ k = 1 := by omega
theorem pr_get {k : Nat} (h : k ≤ 1) (a b : Value) : (pr k a b)[k]? = some a := by rcases k_cases h with rfl | rfl <;> rfl
theorem pr_oth {k : Nat} (h : k ≤ 1) (a b : Value) : (pr k a b)[1 - k]? = some b := by rcases k_cases h with rfl | rfl <;> rfl
theorem pr_set {k : Nat} (h : k ≤ 1) (a b x : Value) : (pr k a b).setIfInBounds k x = pr k x b := by rcases k_cases h with rfl | rfl <;> rfl
theorem pr_seto {k : Nat} (h : k ≤ 1) (a b x : Value) : (pr k a b).setIfInBounds (1 - k) x = pr k a x := by rcases k_cases h with rfl | rfl <;> rfl
theorem pr_swap (a b : Value) : pr 0 a b = pr 1 b a := rfl
abbrev P2 (g : Nat) : Value := .pointer (some ⟨g, 0, none⟩)
theorem hash_ne {W : World} {d g : Nat} {T : TypeId} {cs : Array Value} {m : List Nat} (h : AR W d T cs) (hT : T ≠ 78) (hh : HA W g m) : d ≠ g := by
  obtain ⟨n, st, last, h3, _⟩ := hh
  intro e
  subst e
  have := Option.some.inj (h.symm.trans h3)
  simp only [Obj.cells.injEq] at this
  exact hT this.2.1
theorem grown_cell (w : World) (d i : Nat) (x : Value) : w.grownBy (w.setCell ⟨d, i, none⟩ x) (some d) := ⟨rfl, rfl, rfl, by simp, fun k _ hk => heap_setCell_other w ⟨d, i, none⟩ k x (fun e => hk (by simp [e]))⟩
theorem ON.base {w : World} {B B' : Nat} {v : Value} {xs : List Nat} (h : ON w B v xs) (hb : B' ≤ B) : ON w B' v xs := by
  have h' : w.ownsRow B 5 1 v xs.length (yL xs) := h
  rcases h'.2 with h1 | ⟨g, c, cur, e, h1, h2⟩
  · exact ⟨h'.1, .inl h1⟩
  · exact ⟨h'.1, .inr ⟨g, c, cur, e, Nat.le_trans hb h1, h2⟩⟩

structure HQ (w : World) (dh db k g : Nat) (mh : List Nat) (v : Value) (mb : List Nat) (g' : Nat) (mh' : List Nat) (v' : Value) (mb' : List Nat) (W : World) : Prop where
  lo : w.heap.size ≤ dh ∧ w.heap.size ≤ db ∧ dh ≠ db ∧ w.heap.size ≤ g ∧ w.heap.size ≤ g' ∧ g ≠ g'
  rh : AR W dh 26 (pr k (P2 g) (P2 g'))
  rb : AR W db 28 (pr k v v')
  h : HA W g mh
  h' : HA W g' mh'
  o : ON W w.heap.size v mb
  o' : ON W w.heap.size v' mb'
  bel : Below w.heap.size w W
  bb : BB mb
  bb' : BB mb'
section
variable {w W W' : World} {dh db k g g' : Nat} {mh mb mh' mb' : List Nat} {v v' : Value}
theorem HQ.step (q : HQ w dh db k g mh v mb g' mh' v' mb' W) (hb : Below W.heap.size W W') : HQ w dh db k g mh v mb g' mh' v' mb' W' :=
  ⟨q.lo, q.rh.step hb, q.rb.step hb, q.h.step hb, q.h'.step hb, q.o.later hb, q.o'.later hb, bl_call q.bel hb, q.bb, q.bb'⟩
theorem HQ.swap (q : HQ w dh db 0 g mh v mb g' mh' v' mb' W) : HQ w dh db 1 g' mh' v' mb' g mh v mb W :=
  ⟨⟨q.lo.1, q.lo.2.1, q.lo.2.2.1, q.lo.2.2.2.2.1, q.lo.2.2.2.1, Ne.symm q.lo.2.2.2.2.2⟩, q.rh, q.rb, q.h', q.h, q.o', q.o, q.bel, q.bb', q.bb⟩
theorem HQ.back (q : HQ w dh db 1 g mh v mb g' mh' v' mb' W) : HQ w dh db 0 g' mh' v' mb' g mh v mb W :=
  ⟨⟨q.lo.1, q.lo.2.1, q.lo.2.2.1, q.lo.2.2.2.2.1, q.lo.2.2.2.1, Ne.symm q.lo.2.2.2.2.2⟩, q.rh, q.rb, q.h', q.h, q.o', q.o, q.bel, q.bb', q.bb⟩
/-- The hash is written to, or reset. -/
theorem HQ.hashed (q : HQ w dh db k g mh v mb g' mh' v' mb' W) {m2 : List Nat} (hh : HA W' g m2) (hg : W.grownBy W' (some g)) : HQ w dh db k g m2 v mb g' mh' v' mb' W' :=
  ⟨q.lo, q.rh.grownX hg (hash_ne q.rh (by decide) q.h), q.rb.grownX hg (hash_ne q.rb (by decide) q.h), hh, q.h'.grown hg (by intro e; exact q.lo.2.2.2.2.2 (Option.some.inj e)), q.o.grown q.h hg, q.o'.grown q.h hg,
    q.bel.grown hg q.bel.size (fun j e => by cases e; exact q.lo.2.2.2.1), q.bb, q.bb'⟩
theorem ON.celled {B d i : Nat} {l : List Nat} {T : TypeId} {cs : Array Value} {x : Value} (h : ON W B v l) (hd : AR W d T cs) (hT : T ≠ 5) : ON (W.setCell ⟨d, i, none⟩ x) B v l :=
  World.ownsRow.kept h (grown_cell W d i x) (Or.inr (h.apartX hd hT))
/-- The bytes are other ones. -/
theorem HQ.bytes (q : HQ w dh db k g mh v mb g' mh' v' mb' W) (hk : k ≤ 1) {v2 : Value} {m2 : List Nat} (h2 : ON W w.heap.size v2 m2) (hb : BB m2) : HQ w dh db k g mh v2 m2 g' mh' v' mb' (W.setCell ⟨db, k, none⟩ v2) := by
  refine ⟨q.lo, q.rh.kept (show dh ≠ db from q.lo.2.2.1) _, ?_, q.h.celled (hash_ne q.rb (by decide) q.h) _, q.h'.celled (hash_ne q.rb (by decide) q.h') _, h2.celled q.rb (by decide), q.o'.celled q.rb (by decide), bl_set _ q.bel q.lo.2.1, hb, q.bb'⟩
  have := q.rb.put k v2
  rwa [pr_set hk] at this
/-- The other hash is another one. -/
theorem HQ.otherHash (q : HQ w dh db k g mh v mb g' mh' v' mb' W) (hk : k ≤ 1) {g2 : Nat} {m2 : List Nat} (h2 : HA W g2 m2) (hl : w.heap.size ≤ g2) (hne : g ≠ g2) : HQ w dh db k g mh v mb g2 m2 v' mb' (W.setCell ⟨dh, 1 - k, none⟩ (P2 g2)) := by
  refine ⟨⟨q.lo.1, q.lo.2.1, q.lo.2.2.1, q.lo.2.2.2.1, hl, hne⟩, ?_, q.rb.kept (show db ≠ dh from Ne.symm q.lo.2.2.1) _, q.h.celled (hash_ne q.rh (by decide) q.h) _, h2.celled (hash_ne q.rh (by decide) h2) _, q.o.celled q.rh (by decide), q.o'.celled q.rh (by decide), bl_set _ q.bel q.lo.1, q.bb, q.bb'⟩
  have := q.rh.put (1 - k) (P2 g2)
  rwa [pr_seto hk] at this
/-- The other bytes are these ones. -/
theorem HQ.otherBytes (q : HQ w dh db k g mh v mb g' mh' v' mb' W) (hk : k ≤ 1) : HQ w dh db k g mh v mb g' mh' v mb (W.setCell ⟨db, 1 - k, none⟩ v) := by
  refine ⟨q.lo, q.rh.kept (show dh ≠ db from q.lo.2.2.1) _, ?_, q.h.celled (hash_ne q.rb (by decide) q.h) _, q.h'.celled (hash_ne q.rb (by decide) q.h') _, q.o.celled q.rb (by decide), q.o.celled q.rb (by decide), bl_set _ q.bel q.lo.2.1, q.bb, q.bb⟩
  have := q.rb.put (1 - k) v
  rwa [pr_seto hk] at this
end
/-- Bytes are appended to one's own: one operation by itself. -/
theorem wp_append_on (w : World) {o : Oper} {a : Act} {K : Act → World → Prop} {Q : Exit → Act → World → Prop} (s x : Operand)
    (ho : o.op = .call { callee := .builtin .append, args := #[s, x], argTypes := #[27, 27] })
    (B : Nat) (v b : Value) (zs xs : List Nat) (hs : a.eval s = v) (hown : ON w B v zs) (hx : a.eval x = b) (hb : RN w b xs) (hB : B ≤ w.heap.size) (hl : zs.length + xs.length ≤ 1000000)
    (h : ∀ v' w', ON w' B v' (zs ++ xs) → w.grownBy w' v.ownBlock → K (a.put o.dst v') w') : Oper.wp Tryd.prog o a w K Q := by
  obtain ⟨i0, hi, hz0, hz1, hz2⟩ := info_parts info_u8
  have hown' : w.ownsRow B 5 1 v zs.length (yL zs) := hown
  rcases hb.two with ⟨rfl, rfl⟩ | ⟨ad, c, rfl, hc⟩
  · have hrun := run_append_owned_none (P := Tryd.prog) (w := w) B 27 o.type 5 i0 1 Tryd.underlying27 hi v zs.length (yL zs) hown'
    unfold Oper.wp
    simp [execOp, ho, resolve, invoke, builtin, hs, hx, hrun, Result.andThen]
    exact h v w (by simpa using hown) ⟨rfl, rfl, rfl, Nat.le_refl _, fun _ _ _ => rfl⟩
  · refine wp_append_own w s x 27 ho B 5 i0 (.int .u8 0) 1 1 Tryd.underlying27 hi hz0 hz1 hz2 rfl (by decide) v zs.length (yL zs) hs hown' ad xs.length c (yL xs) hx (by simp [yL]) hc (yL_one xs) (by unfold maxLen; omega) (by omega) hB ?_
    intro v' w' hn hg _
    refine h v' w' ?_ hg
    unfold ON
    rw [yL_app, List.length_append]
    exact hn
end Go.Proofs.YtaeicjgkoofmpaaDoor
