/- A hash that is written to, and bytes that grow beside it. -/
import Derived.Test.YtaeicjgkoofmpaaDoorShaY
import Derived.Test.YtaeicjgkoofmpaaDoorShaT
namespace Go.Proofs.YtaeicjgkoofmpaaDoor
open Go.RowKit Go.Lib
set_option linter.unusedVariables false

theorem RN.two {W : World} {v : Value} {xs : List Nat} (h : RN W v xs) : (v = .slice none 0 0 ∧ xs = []) ∨ ∃ ad c, v = .slice (some ad) xs.length c ∧ ∀ j u, (yL xs)[j]? = some u → W.cell? (ad.add j) = some u := by
  rcases h with ⟨A, c, rfl, rfl, hn⟩ | ⟨g, off, c, rfl, hg, h0, h2, h3, h4⟩
  · cases A with
    | none => rw [hn rfl]; exact .inl ⟨rfl, rfl⟩
    | some ad => exact .inr ⟨ad, c, rfl, fun j u hj => by simp [yL] at hj⟩
  · refine .inr ⟨_, c, rfl, fun j u hj => ?_⟩
    rw [Addr.add_mid]
    have hlt : j < xs.length := by
      have := (List.getElem?_eq_some_iff.1 hj).1
      rwa [yL_len] at this
    rw [h4 j hlt, ← hj, yL, List.getElem?_map, List.getElem?_eq_getElem hlt, List.getD_eq_getElem?_getD, List.getElem?_eq_getElem hlt]
    rfl
theorem HA.grown {W W' : World} {g : Nat} {m : List Nat} {row : Option Nat} (h : HA W g m) (hg : W.grownBy W' row) (hne : row ≠ some g) : HA W' g m := by
  obtain ⟨n, st, last, h1, h2⟩ := h
  exact ⟨n, st, last, (hg.block g h1.inside (fun e => hne e.symm)).trans h1, h2⟩
theorem ON.apart {W : World} {B g : Nat} {v : Value} {xs m : List Nat} (h : ON W B v xs) (hh : HA W g m) : v.ownBlock ≠ some g := by
  obtain ⟨n, st, last, h1, h2⟩ := hh
  exact ownBlock_ne (T := 78) (e := 5) h h1 (by decide)
theorem ON.grown {W W' : World} {B g : Nat} {v : Value} {xs m : List Nat} (h : ON W B v xs) (hh : HA W g m) (hg : W.grownBy W' (some g)) : ON W' B v xs :=
  World.ownsRow.kept h hg (Or.inr (h.apart hh))
theorem ON.nil (w : World) (B : Nat) (h : B ≤ w.heap.size) : ON w B (.slice none 0 0) [] := ⟨rfl, Or.inl ⟨rfl, rfl⟩⟩
theorem ON.later {W W' : World} {B : Nat} {v : Value} {xs : List Nat} (h : ON W B v xs) (hb : Below W.heap.size W W') : ON W' B v xs := by
  have hg : W.grownBy W' none := ⟨hb.os, hb.tape, hb.output, hb.size, fun k hk _ => hb.block k hk⟩
  exact World.ownsRow.kept h hg (Decidable.em _)

theorem wpList_append_on (w : World) {ops : Array Oper} {rest : List Oper} {o : Oper} {a : Act} {Q : Exit → Act → World → Prop} (hgd : o.guard = none) (s x : Operand)
    (ho : o.op = .call { callee := .builtin .append, args := #[s, x], argTypes := #[27, 27] })
    (B : Nat) (v b : Value) (zs xs : List Nat) (hs : a.eval s = v) (hown : ON w B v zs) (hx : a.eval x = b) (hb : RN w b xs) (hB : B ≤ w.heap.size) (hl : zs.length + xs.length ≤ 1000000)
    (h : ∀ v' w', ON w' B v' (zs ++ xs) → w.grownBy w' v.ownBlock → wpList Tryd.prog ops Q rest (a.put o.dst v') w') : wpList Tryd.prog ops Q (o :: rest) a w := by
  obtain ⟨i0, hi, hz0, hz1, hz2⟩ := info_parts info_u8
  have hown' : w.ownsRow B 5 1 v zs.length (yL zs) := hown
  rcases hb.two with ⟨rfl, rfl⟩ | ⟨ad, c, rfl, hc⟩
  · exact wpList_append_own_none hgd s x 27 ho B 5 i0 1 Tryd.underlying27 hi v zs.length (yL zs) hs hown' hx (h v w (by simpa using hown) ⟨rfl, rfl, rfl, Nat.le_refl _, fun _ _ _ => rfl⟩)
  · refine wpList_append_own w hgd s x 27 ho B 5 i0 (.int .u8 0) 1 1 Tryd.underlying27 hi hz0 hz1 hz2 rfl (by decide) v zs.length (yL zs) hs hown' ad xs.length c (yL xs) hx (by simp [yL]) hc (yL_one xs) (by unfold maxLen; omega) (by omega) hB ?_
    intro v' w' hn hg _
    refine h v' w' ?_ hg
    unfold ON
    rw [yL_app, List.length_append]
    exact hn

/-- A hash at g, and bytes v of one's own, both of m. -/
structure PS (w wr : World) (g : Nat) (v : Value) (m : List Nat) : Prop where
  lo : w.heap.size ≤ g
  ha : HA wr g m
  own : ON wr w.heap.size v m
  bel : Below w.heap.size w wr
  bb : BB m
structure PT (w wr : World) (g : Nat) (v : Value) (m xs : List Nat) : Prop where
  lo : w.heap.size ≤ g
  ha : HA wr g (m ++ xs)
  own : ON wr w.heap.size v m
  bel : Below w.heap.size w wr
  bb : BB (m ++ xs)
theorem PS.write {w wr w1 : World} {g : Nat} {v : Value} {m xs : List Nat} (h : PS w wr g v m) (hb : BB xs) (hh : HA w1 g (m ++ xs)) (hg : wr.grownBy w1 (some g)) : PT w w1 g v m xs :=
  ⟨h.lo, hh, h.own.grown h.ha hg, h.bel.grown hg h.bel.size (fun k e => by cases e; exact h.lo), h.bb.app hb⟩
theorem PT.append {w w1 w2 : World} {g : Nat} {v v2 : Value} {m xs : List Nat} (h : PT w w1 g v m xs) (hn : ON w2 w.heap.size v2 (m ++ xs)) (hg : w1.grownBy w2 v.ownBlock) : PS w w2 g v2 (m ++ xs) :=
  ⟨h.lo, h.ha.grown hg (h.own.apart h.ha), hn, h.bel.grown hg h.bel.size (fun k e => (World.ownsRow.lt h.own k e).1), h.bb⟩
theorem PS.step {w wr W : World} {g : Nat} {v : Value} {m : List Nat} (h : PS w wr g v m) (hb : Below wr.heap.size wr W) : PS w W g v m :=
  ⟨h.lo, h.ha.step hb, h.own.later hb, bl_call h.bel hb, h.bb⟩
end Go.Proofs.YtaeicjgkoofmpaaDoor
